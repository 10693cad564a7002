/- Parse of the document. Conditions: a method and a text of at most a million bytes. -/
import Derived.Test.YtgckpoecdaioiaaTp11
namespace Go.Proofs.Ytgckpoecdaioiaa
open Go.RowKit
set_option linter.unusedVariables false
set_option linter.unusedSimpArgs false

theorem sameL_iff (a b : ByteArray) : sameL a b = ((ofL (lowL a.data.toList)).toList == (ofL (lowL b.data.toList)).toList) := by
  unfold sameL
  rw [ByteArray.toList_eq, ByteArray.toList_eq, ofL_list, ofL_list, Bool.eq_iff_iff, decide_eq_true_iff, beq_iff_eq]
theorem sameR (a b : ByteArray) (ha : a.size ≤ 1000000) (hb : b.size ≤ 1000000) (w : World) : Calls Try.prog 30 #[.string a, .string b] w fun e w' => e = .returned (.bool (sameL a b)) ∧ Mods [] w w' := by
  rw [sameL_iff]
  have HA := Lib.hid (fun w => lowerR a ha w)
  have HB := Lib.hid (fun w => lowerR b hb w)
  obtain ⟨x, hx⟩ : ∃ x : ByteArray, x = ofL (lowL a.data.toList) := ⟨_, rfl⟩
  obtain ⟨y, hy⟩ : ∃ y : ByteArray, y = ofL (lowL b.data.toList) := ⟨_, rfl⟩
  rw [← hx] at HA ⊢
  rw [← hy] at HB ⊢
  clear hx hy
  go_enter Try.func30, Try.ntmps30
  go_wp2_with fail
  refine (HA.out _).mono ?_
  rintro e w1 ⟨rfl, hm⟩
  have M1 := Lib.hid hm
  clear hm
  go_wp2_with fail
  refine (HB.out _).mono ?_
  rintro e w2 ⟨rfl, hm⟩
  have M2 := Lib.hid (M1.out.on hm)
  clear hm
  go_wp2
  go_ret
  exact ⟨rfl, M2.out⟩
theorem end_first {s : ByteArray} {k : Nat} (hk : k < s.size) (h0 : (s.data.toList.take k).all (fun c => !endB c) = true) (h : endB s[k] = true) : hostOf s.data.toList = s.data.toList.take k := by
  unfold hostOf
  rw [upL_take, upL_first hk h0 h]
theorem end_none {s : ByteArray} (h0 : s.data.toList.all (fun c => !endB c) = true) : hostOf s.data.toList = s.data.toList := upL_none h0

set_option maxRecDepth 10000 in
set_option maxHeartbeats 1000000 in
theorem absolute_r (s : ByteArray) (hs : s.size ≤ 900000) (w : World) : Calls Try.prog 31 #[.string s] w (TAns w (absL s.data.toList)) := by
  have HLN := Lib.hid (len_data s)
  go_enter Try.func31, Try.ntmps31
  go_wp2
  obtain ⟨w0, hw0⟩ : ∃ w0, w0 = w.alloc (.cells #[.int .i64 0, .string ⟨#[]⟩, .string ⟨#[]⟩, .string ⟨#[]⟩] 23) := ⟨_, rfl⟩
  obtain ⟨n0, hn0⟩ : ∃ n0, n0 = w.heap.size := ⟨_, rfl⟩
  have HR0 := Lib.hid (show Row w0 n0 23 noT.cells by rw [hw0, hn0]; exact Row.new w _ _)
  have HM0 := Lib.hid (show Mods [] w w0 by rw [hw0]; exact (Mods.refl [] w).alloc _)
  have HN0 := Lib.hid (show w.heap.size ≤ n0 by omega)
  rw [← hw0, ← hn0]
  clear hw0 hn0
  go_loop [4] (fun i => ∃ (k : Nat), k ≤ s.size ∧ i = .int .i64 k ∧ (s.data.toList.take k).all (fun c => !endB c) = true) (fun i => s.size - (intOf i).toNat)
  case atStart => exact ⟨0, Nat.zero_le _, rfl, rfl⟩
  case round =>
    obtain ⟨k, hk, rfl, hall⟩ := hrel
    have HA := Lib.hid hall
    clear hall
    have hul := ext_to s k
    have hus := ext_le s 0 k
    have hvl := ext_from s k
    have hvs : (s.extract k s.size).size = s.size - k := by rw [ByteArray.size_extract]; omega
    have c1 : (0 : Int) ≤ (k : Int) := by omega
    have c2 : (k : Int) ≤ (s.size : Int) := by omega
    have hvz : (s.extract k s.size).size ≤ 900000 := by omega
    obtain ⟨u, hu⟩ : ∃ u, u = s.extract 0 k := ⟨_, rfl⟩
    obtain ⟨v, hv⟩ : ∃ v, v = s.extract k s.size := ⟨_, rfl⟩
    rw [← hu] at hul hus
    rw [← hv] at hvl hvs hvz
    have HU := Lib.hid hu
    have HV := Lib.hid hv
    clear hu hv
    have HH := Lib.hid (fun w => host_r u w (by omega))
    have HL := Lib.hid (fun w => lowerR u (by omega) w)
    by_cases hlt : k < s.size
    · have hp : 0 < v.size := by omega
      have hv0 := first_of hvl hp hlt
      obtain ⟨e3, e4⟩ := emp_no hp
      by_cases h47 : s[k] = 47
      · have hho := end_first hlt HA.out (show endB s[k] = true by rw [h47]; rfl)
        have e1 : ((s[k].toNat : Int) != 47) = false := by rw [h47]; rfl
        have e5 : ((v[0].toNat : Int) != 47) = false := by rw [hv0, h47]; rfl
        have hrest : restOf s.data.toList = v.data.toList := by
          unfold restOf
          rw [hho, take_len s hk, ← hvl, if_pos]
          have := drop_cons v 0 hp
          rw [List.drop_zero] at this
          rw [this, hv0, h47]; rfl
        clear h47 hv0
        rw [hul, ← hho] at HH HL
        have hjs : v.size ≤ 1000000 := by omega
        have HO := Lib.hid (fun w => origin_r v hjs w)
        unfold OAns at HO
        rw [← hrest] at HO
        cases hh : hostL (hostOf s.data.toList) with
        | false =>
          rw [hh] at HH
          have HX := Lib.hid (absL_no hh)
          clear hh hrest hho hul hus hvl hvs
          obtain ⟨c0, c1, c2, c3, f0, f1, f2, f3⟩ := HR0.out.facts
          simp only [noT, noB] at c0 c1 c2 c3
          go_wp2_with (go_at_call 21; (try rw [← HU.out]); refine (HH.out _).mono ?_; rintro e w' ⟨rfl, rfl⟩)
          exact end_T rfl HR0.out rfl rfl rfl HX.out HM0.out HN0.out
        | true =>
          rw [hh] at HH
          have hx := absL_yes hh
          generalize hov : orgV (restOf s.data.toList) = ov at HO
          obtain ⟨pa, qa, ok⟩ := ov
          obtain ⟨lh, hlh⟩ : ∃ lh, lh = ofL (lowL (hostOf s.data.toList)) := ⟨_, rfl⟩
          rw [← hlh] at hx HL
          cases ok with
          | false =>
            have HX := Lib.hid (hx.trans (orgF_no (orgV_no (by rw [hov]))))
            clear hh hrest hho hul hus hvl hvs hov hlh hx
            go_upto_region 7 with (go_at_call 21; (try rw [← HU.out]); refine (HH.out _).mono ?_; rintro e w' ⟨rfl, rfl⟩)
            rw [← HV.out]
            go_wp2_with (go_at_call 29; (try rw [← HV.out]); refine (HO.out _).mono ?_; rintro e w1 ⟨rfl, hm⟩; have R1 := Lib.hid (HR0.out.mods hm (by simp)); have M1 := Lib.hid (HM0.out.on hm); obtain ⟨c0, c1, c2, c3, f0, f1, f2, f3⟩ := R1.out.facts; simp only [noT, noB] at c0 c1 c2 c3; clear hm)
            exact end_T rfl R1.out rfl rfl rfl HX.out M1.out HN0.out
          | true =>
            have HX := Lib.hid (hx.trans (orgV_F (f := 2) (h := lh) (by rw [hov])))
            rw [hov] at HX
            clear hh hrest hho hul hus hvl hvs hov hlh hx
            go_upto_region 7 with (go_at_call 21; (try rw [← HU.out]); refine (HH.out _).mono ?_; rintro e w' ⟨rfl, rfl⟩)
            rw [← HV.out]
            go_wp2_with (first
              | (go_at_call 29; (try rw [← HV.out]); refine (HO.out _).mono ?_; rintro e w1 ⟨rfl, hm⟩; have R1 := Lib.hid (HR0.out.mods hm (by simp)); have M1 := Lib.hid (HM0.out.on hm); clear hm)
              | (go_at_call 28; (try rw [← HU.out]); refine (HL.out _).mono ?_; rintro e w2 ⟨rfl, hm⟩; have R2 := Lib.hid (R1.out.mods hm (by simp)); have M2 := Lib.hid (M1.out.on hm); obtain ⟨c0, c1, c2, c3, f0, f1, f2, f3⟩ := R2.out.facts; simp only [noT, noB] at c0 c1 c2 c3; clear hm))
            exact end_T rfl R2.out rfl rfl rfl HX.out M2.out HN0.out
      · have e1 : ((s[k].toNat : Int) != 47) = true := by have := (b_no 47 h47).2; simpa using this
        by_cases h63 : s[k] = 63
        · have hho := end_first hlt HA.out (show endB s[k] = true by rw [h63]; rfl)
          have e2 : ((s[k].toNat : Int) != 63) = false := by rw [h63]; rfl
          have e5 : ((v[0].toNat : Int) != 47) = true := by rw [hv0, h63]; rfl
          have hrest : restOf s.data.toList = 47 :: v.data.toList := by
            unfold restOf
            rw [hho, take_len s hk, ← hvl, if_neg]
            have := drop_cons v 0 hp
            rw [List.drop_zero] at this
            rw [this, hv0, h63]; simp [slashL]
          clear h63 h47 hv0
          rw [hul, ← hho] at HH HL
          have hjl : (⟨#[47]⟩ ++ v : ByteArray).data.toList = restOf s.data.toList := by rw [ByteArray.data_append, Array.toList_append, hrest]; rfl
          have hjs : (⟨#[47]⟩ ++ v : ByteArray).size ≤ 1000000 := by rw [ByteArray.size_append]; show 1 + _ ≤ _; omega
          obtain ⟨jt, hjt⟩ : ∃ jt, jt = (⟨#[47]⟩ ++ v : ByteArray) := ⟨_, rfl⟩
          rw [← hjt] at hjl hjs
          have HO := Lib.hid (fun w => origin_r jt hjs w)
          unfold OAns at HO
          rw [hjl] at HO
          have HJT := Lib.hid hjt
          clear hjl hjt
          cases hh : hostL (hostOf s.data.toList) with
          | false =>
            rw [hh] at HH
            have HX := Lib.hid (absL_no hh)
            clear hh hrest hho hul hus hvl hvs
            obtain ⟨c0, c1, c2, c3, f0, f1, f2, f3⟩ := HR0.out.facts
            simp only [noT, noB] at c0 c1 c2 c3
            go_wp2_with (go_at_call 21; (try rw [← HU.out]); refine (HH.out _).mono ?_; rintro e w' ⟨rfl, rfl⟩)
            exact end_T rfl HR0.out rfl rfl rfl HX.out HM0.out HN0.out
          | true =>
            rw [hh] at HH
            have hx := absL_yes hh
            generalize hov : orgV (restOf s.data.toList) = ov at HO
            obtain ⟨pa, qa, ok⟩ := ov
            obtain ⟨lh, hlh⟩ : ∃ lh, lh = ofL (lowL (hostOf s.data.toList)) := ⟨_, rfl⟩
            rw [← hlh] at hx HL
            cases ok with
            | false =>
              have HX := Lib.hid (hx.trans (orgF_no (orgV_no (by rw [hov]))))
              clear hh hrest hho hul hus hvl hvs hov hlh hx
              go_upto_region 7 with (go_at_call 21; (try rw [← HU.out]); refine (HH.out _).mono ?_; rintro e w' ⟨rfl, rfl⟩)
              rw [← HV.out]
              go_wp2_with (go_at_call 29; (try rw [← HV.out]); (try rw [← HJT.out]); refine (HO.out _).mono ?_; rintro e w1 ⟨rfl, hm⟩; have R1 := Lib.hid (HR0.out.mods hm (by simp)); have M1 := Lib.hid (HM0.out.on hm); obtain ⟨c0, c1, c2, c3, f0, f1, f2, f3⟩ := R1.out.facts; simp only [noT, noB] at c0 c1 c2 c3; clear hm)
              exact end_T rfl R1.out rfl rfl rfl HX.out M1.out HN0.out
            | true =>
              have HX := Lib.hid (hx.trans (orgV_F (f := 2) (h := lh) (by rw [hov])))
              rw [hov] at HX
              clear hh hrest hho hul hus hvl hvs hov hlh hx
              go_upto_region 7 with (go_at_call 21; (try rw [← HU.out]); refine (HH.out _).mono ?_; rintro e w' ⟨rfl, rfl⟩)
              rw [← HV.out]
              go_wp2_with (first
                | (go_at_call 29; (try rw [← HV.out]); (try rw [← HJT.out]); refine (HO.out _).mono ?_; rintro e w1 ⟨rfl, hm⟩; have R1 := Lib.hid (HR0.out.mods hm (by simp)); have M1 := Lib.hid (HM0.out.on hm); clear hm)
                | (go_at_call 28; (try rw [← HU.out]); refine (HL.out _).mono ?_; rintro e w2 ⟨rfl, hm⟩; have R2 := Lib.hid (R1.out.mods hm (by simp)); have M2 := Lib.hid (M1.out.on hm); obtain ⟨c0, c1, c2, c3, f0, f1, f2, f3⟩ := R2.out.facts; simp only [noT, noB] at c0 c1 c2 c3; clear hm))
              exact end_T rfl R2.out rfl rfl rfl HX.out M2.out HN0.out
        · have e2 : ((s[k].toNat : Int) != 63) = true := by have := (b_no 63 h63).2; simpa using this
          have HN := Lib.hid (take_all hlt HA.out (show (!endB s[k]) = true by unfold endB isC; simp [h47, h63]))
          clear h63 h47 hv0 hul hus hvl hvs
          go_wp2
          go_round
          case rel => exact ⟨k + 1, by omega, by go_num, HN.out⟩
          case measure => simp [intOf]; omega
    · obtain rfl : k = s.size := by omega
      have hus2 : s = u := (HU.out.trans (ext_all s)).symm
      subst hus2
      have hho0 := end_none (take_end hlt HA.out)
      have hho : hostOf s.data.toList = s.data.toList.take s.size := by rw [hho0, ← HLN.out, List.take_length]
      have hv0 : v.size = 0 := by omega
      have e3 := emp_yes hv0
      have hrest : restOf s.data.toList = 47 :: v.data.toList := by
        unfold restOf
        rw [hho, take_len s hk, ← hvl, if_neg]
        rw [nil_data hv0]; simp [slashL]
      replace HV := Lib.hid (show v = ByteArray.empty from bytes_ext (nil_data hv0))
      clear hho0 hv0
      rw [hul, ← hho] at HH HL
      have hjl : (⟨#[47]⟩ ++ v : ByteArray).data.toList = restOf s.data.toList := by rw [ByteArray.data_append, Array.toList_append, hrest]; rfl
      have hjs : (⟨#[47]⟩ ++ v : ByteArray).size ≤ 1000000 := by rw [ByteArray.size_append]; show 1 + _ ≤ _; omega
      obtain ⟨jt, hjt⟩ : ∃ jt, jt = (⟨#[47]⟩ ++ v : ByteArray) := ⟨_, rfl⟩
      rw [← hjt] at hjl hjs
      have HO := Lib.hid (fun w => origin_r jt hjs w)
      unfold OAns at HO
      rw [hjl] at HO
      have HJT := Lib.hid hjt
      clear hjl hjt
      cases hh : hostL (hostOf s.data.toList) with
      | false =>
        rw [hh] at HH
        have HX := Lib.hid (absL_no hh)
        clear hh hrest hho hul hus hvl hvs
        obtain ⟨c0, c1, c2, c3, f0, f1, f2, f3⟩ := HR0.out.facts
        simp only [noT, noB] at c0 c1 c2 c3
        go_wp2_with (go_at_call 21; (try rw [← HU.out]); refine (HH.out _).mono ?_; rintro e w' ⟨rfl, rfl⟩)
        exact end_T rfl HR0.out rfl rfl rfl HX.out HM0.out HN0.out
      | true =>
        rw [hh] at HH
        have hx := absL_yes hh
        generalize hov : orgV (restOf s.data.toList) = ov at HO
        obtain ⟨pa, qa, ok⟩ := ov
        obtain ⟨lh, hlh⟩ : ∃ lh, lh = ofL (lowL (hostOf s.data.toList)) := ⟨_, rfl⟩
        rw [← hlh] at hx HL
        cases ok with
        | false =>
          have HX := Lib.hid (hx.trans (orgF_no (orgV_no (by rw [hov]))))
          clear hh hrest hho hul hus hvl hvs hov hlh hx
          go_upto_region 7 with (go_at_call 21; (try rw [← HU.out]); refine (HH.out _).mono ?_; rintro e w' ⟨rfl, rfl⟩)
          rw [← HV.out]
          go_wp2_with (go_at_call 29; (try rw [← HV.out]); (try rw [← HJT.out]); refine (HO.out _).mono ?_; rintro e w1 ⟨rfl, hm⟩; have R1 := Lib.hid (HR0.out.mods hm (by simp)); have M1 := Lib.hid (HM0.out.on hm); obtain ⟨c0, c1, c2, c3, f0, f1, f2, f3⟩ := R1.out.facts; simp only [noT, noB] at c0 c1 c2 c3; clear hm)
          exact end_T rfl R1.out rfl rfl rfl HX.out M1.out HN0.out
        | true =>
          have HX := Lib.hid (hx.trans (orgV_F (f := 2) (h := lh) (by rw [hov])))
          rw [hov] at HX
          clear hh hrest hho hul hus hvl hvs hov hlh hx
          go_upto_region 7 with (go_at_call 21; (try rw [← HU.out]); refine (HH.out _).mono ?_; rintro e w' ⟨rfl, rfl⟩)
          rw [← HV.out]
          go_wp2_with (first
            | (go_at_call 29; (try rw [← HV.out]); (try rw [← HJT.out]); refine (HO.out _).mono ?_; rintro e w1 ⟨rfl, hm⟩; have R1 := Lib.hid (HR0.out.mods hm (by simp)); have M1 := Lib.hid (HM0.out.on hm); clear hm)
            | (go_at_call 28; (try rw [← HU.out]); refine (HL.out _).mono ?_; rintro e w2 ⟨rfl, hm⟩; have R2 := Lib.hid (R1.out.mods hm (by simp)); have M2 := Lib.hid (M1.out.on hm); obtain ⟨c0, c1, c2, c3, f0, f1, f2, f3⟩ := R2.out.facts; simp only [noT, noB] at c0 c1 c2 c3; clear hm))
          exact end_T rfl R2.out rfl rfl rfl HX.out M2.out HN0.out


theorem slash_zero {s : ByteArray} (h : s.size = 0) : slashL s.data.toList = false := by rw [nil_data h]; rfl
theorem slash_at {s : ByteArray} (h : 0 < s.size) : slashL s.data.toList = decide (s[0] = 47) := by
  have hd := drop_cons s 0 h
  rw [List.drop_zero] at hd
  by_cases hc : s[0] = 47
  · rw [hd, decide_eq_true hc, hc]; rfl
  · rw [hd, decide_eq_false hc, slash_cons hc]

set_option maxRecDepth 10000 in
set_option maxHeartbeats 1000000 in
theorem parse_r (m s : ByteArray) (w : World) (hm : m.size ≤ 1000000) (hs : s.size ≤ 900000) : Calls Try.prog 12 #[.string m, .string s] w (TAns w (parT m.data.toList s.data.toList)) := by
  have hlen := len_data s
  by_cases h200 : 200 < s.size
  · have HX := Lib.hid (parT_long (m := m.data.toList) (l := s.data.toList) h200)
    clear hlen
    go_enter Try.func12, Try.ntmps12
    go_wp2
    exact end_N rfl rfl rfl rfl HX.out
  · have h201 : decide (200 < s.size) = false := by simpa using h200
    have hl : ¬ 200 < s.data.toList.length := h200
    by_cases hc : m.data.toList = connectL
    · have hx := parT_con hl hc
      have e1 : (m.toList == [67, 79, 78, 78, 69, 67, 84]) = true := text_eq hc
      have HH := Lib.hid (fun w => host_r s w (by omega))
      cases hh : hostL s.data.toList with
      | false =>
        rw [hh] at HH
        have HX := Lib.hid (hx.trans (authL_no (.inl hh)))
        clear hh hx hc hl hlen
        go_enter Try.func12, Try.ntmps12
        go_wp2_with (go_at_call 21; refine (HH.out _).mono ?_; rintro e w' ⟨rfl, rfl⟩)
        exact end_N rfl rfl rfl rfl HX.out
      | true =>
        rw [hh] at HH
        have HI := Lib.hid (fun w => inR s 58 (by omega) w)
        cases hi : inL s.data.toList 58 with
        | false =>
          rw [hi] at HI
          have HX := Lib.hid (hx.trans (authL_no (.inr hi)))
          clear hh hx hc hl hlen hi
          go_enter Try.func12, Try.ntmps12
          go_wp2_with (first
            | (go_at_call 21; refine (HH.out _).mono ?_; rintro e w' ⟨rfl, rfl⟩)
            | (go_at_call 27; refine (HI.out _).mono ?_; rintro e w' ⟨rfl, rfl⟩))
          exact end_N rfl rfl rfl rfl HX.out
        | true =>
          rw [hi] at HI
          have hy := hx.trans (authL_yes hh hi)
          have HL := Lib.hid (fun w => lowerR s (by omega) w)
          obtain ⟨lh, hlh⟩ : ∃ lh, lh = ofL (lowL s.data.toList) := ⟨_, rfl⟩
          rw [← hlh] at hy HL
          have HX := Lib.hid hy
          clear hh hx hc hl hlen hi hlh hy
          go_enter Try.func12, Try.ntmps12
          go_wp2_with (first
            | (go_at_call 21; refine (HH.out _).mono ?_; rintro e w' ⟨rfl, rfl⟩)
            | (go_at_call 27; refine (HI.out _).mono ?_; rintro e w' ⟨rfl, rfl⟩)
            | (go_at_call 28; refine (HL.out _).mono ?_; rintro e w1 ⟨rfl, hm⟩; have r1 := res_T hm; have R1 := Lib.hid r1; obtain ⟨c0, c1, c2, c3, f0, f1, f2, f3⟩ := r1.1.facts; simp only [noT, noB] at c0 c1 c2 c3; clear hm r1))
          exact end_T rfl R1.out.1 rfl rfl rfl HX.out R1.out.2 (Nat.le_refl _)
    · have e1 : (m.toList == [67, 79, 78, 78, 69, 67, 84]) = false := text_ne hc
      by_cases ho : m.data.toList = optionsL ∧ s.data.toList = [42]
      · have HX := Lib.hid (parT_opt hl hc ho)
        have e2 : (m.toList == [79, 80, 84, 73, 79, 78, 83]) = true := text_eq ho.1
        have e3 : (s.toList == [42]) = true := text_eq ho.2
        clear hl hc ho hlen
        go_enter Try.func12, Try.ntmps12
        go_wp2
        exact end_N rfl rfl rfl rfl HX.out
      · have hopt : ((m.toList == [79, 80, 84, 73, 79, 78, 83]) = false) ∨ ((m.toList == [79, 80, 84, 73, 79, 78, 83]) = true ∧ (s.toList == [42]) = false) := by
          by_cases h1 : m.data.toList = optionsL
          · exact .inr ⟨text_eq h1, text_ne fun h2 => ho ⟨h1, h2⟩⟩
          · exact .inl (text_ne h1)
        rcases Nat.eq_zero_or_pos s.size with h0 | hp
        · have HX := Lib.hid (parT_no hl hc ho (slash_zero h0) (schemeL_short (by rw [hlen]; omega)))
          have e4 : decide (0 < s.size) = false := decide_eq_false (by omega)
          have e5 : decide ((7 : Int) ≤ (s.size : Int)) = false := decide_eq_false (by omega)
          clear hl hc ho hlen
          rcases hopt with e2 | ⟨e2, e3⟩
          · go_enter Try.func12, Try.ntmps12
            go_wp2
            exact end_N rfl rfl rfl rfl HX.out
          · go_enter Try.func12, Try.ntmps12
            go_wp2
            exact end_N rfl rfl rfl rfl HX.out
        · have hsa := slash_at hp
          have e4 : decide (0 < s.size) = true := by simpa using hp
          by_cases h47 : s[0] = 47
          · rw [decide_eq_true h47] at hsa
            have hx := parT_org hl hc ho hsa
            have e6 : ((s[0].toNat : Int) == 47) = true := by rw [h47]; rfl
            have HO := Lib.hid (fun w => origin_r s (by omega) w)
            unfold OAns at HO
            generalize hov : orgV s.data.toList = ov at HO
            obtain ⟨pa, qa, ok⟩ := ov
            cases ok with
            | false =>
              have HX := Lib.hid (hx.trans (orgF_no (orgV_no (by rw [hov]))))
              clear hl hc ho hlen h47 hsa hov hx
              rcases hopt with e2 | ⟨e2, e3⟩
              · go_enter Try.func12, Try.ntmps12
                go_wp2_with (go_at_call 29; refine (HO.out _).mono ?_; rintro e w1 ⟨rfl, hm⟩; have r1 := res_T hm; have R1 := Lib.hid r1; obtain ⟨c0, c1, c2, c3, f0, f1, f2, f3⟩ := r1.1.facts; simp only [noT, noB] at c0 c1 c2 c3; clear hm r1)
                exact end_T rfl R1.out.1 rfl rfl rfl HX.out R1.out.2 (Nat.le_refl _)
              · go_enter Try.func12, Try.ntmps12
                go_wp2_with (go_at_call 29; refine (HO.out _).mono ?_; rintro e w1 ⟨rfl, hm⟩; have r1 := res_T hm; have R1 := Lib.hid r1; obtain ⟨c0, c1, c2, c3, f0, f1, f2, f3⟩ := r1.1.facts; simp only [noT, noB] at c0 c1 c2 c3; clear hm r1)
                exact end_T rfl R1.out.1 rfl rfl rfl HX.out R1.out.2 (Nat.le_refl _)
            | true =>
              have HX := Lib.hid (hx.trans (orgV_F (f := 1) (h := noB) (by rw [hov])))
              rw [hov] at HX
              clear hl hc ho hlen h47 hsa hov hx
              rcases hopt with e2 | ⟨e2, e3⟩
              · go_enter Try.func12, Try.ntmps12
                go_wp2_with (go_at_call 29; refine (HO.out _).mono ?_; rintro e w1 ⟨rfl, hm⟩; have r1 := res_T hm; have R1 := Lib.hid r1; obtain ⟨c0, c1, c2, c3, f0, f1, f2, f3⟩ := r1.1.facts; simp only [noT, noB] at c0 c1 c2 c3; clear hm r1)
                exact end_T rfl R1.out.1 rfl rfl rfl HX.out R1.out.2 (Nat.le_refl _)
              · go_enter Try.func12, Try.ntmps12
                go_wp2_with (go_at_call 29; refine (HO.out _).mono ?_; rintro e w1 ⟨rfl, hm⟩; have r1 := res_T hm; have R1 := Lib.hid r1; obtain ⟨c0, c1, c2, c3, f0, f1, f2, f3⟩ := r1.1.facts; simp only [noT, noB] at c0 c1 c2 c3; clear hm r1)
                exact end_T rfl R1.out.1 rfl rfl rfl HX.out R1.out.2 (Nat.le_refl _)
          · rw [decide_eq_false h47] at hsa
            have e6 : ((s[0].toNat : Int) == 47) = false := by have := (b_no 47 h47).1; simpa using this
            clear h47
            by_cases h7 : 7 ≤ s.size
            · have hel := ext_to s 7
              have hes := ext_le s 0 7
              have hfl := ext_from s 7
              have hfs := ext_le s 7 s.size
              obtain ⟨v, hv⟩ : ∃ v, v = s.extract 0 7 := ⟨_, rfl⟩
              obtain ⟨f, hf⟩ : ∃ f, f = s.extract 7 s.size := ⟨_, rfl⟩
              rw [← hv] at hel hes
              rw [← hf] at hfl hfs
              have HV := Lib.hid hv
              have HF := Lib.hid hf
              have HS := Lib.hid (fun w => sameR v ⟨#[104, 116, 116, 112, 58, 47, 47]⟩ (by omega) (by decide) w)
              have hsc : schemeL s.data.toList = sameL v ⟨#[104, 116, 116, 112, 58, 47, 47]⟩ := by
                rw [schemeL_long (show 7 ≤ s.data.toList.length from h7), ← hel]
                unfold sameL
                rw [show lowL (⟨#[104, 116, 116, 112, 58, 47, 47]⟩ : ByteArray).data.toList = httpL by decide +kernel]
              have c7 : (7 : Int) ≤ (s.size : Int) := by omega
              rw [← hsc] at HS
              cases hb : schemeL s.data.toList with
              | true =>
                rw [hb] at HS
                have hx := parT_abs hl hc ho hsa hb
                have HA := Lib.hid (fun w => absolute_r f (by omega) w)
                rw [hfl] at HA
                unfold TAns at HA
                generalize absL (s.data.toList.drop 7) = r at HA hx
                obtain ⟨⟨fo, h, p, k⟩, n⟩ := r
                simp only [Tgt.cells] at HA
                have HX := Lib.hid hx
                clear hl hc ho hlen hsa hb hx hel hes hfl hv hf hsc
                rcases hopt with e2 | ⟨e2, e3⟩
                · go_enter Try.func12, Try.ntmps12
                  go_wp2_with (first
                    | (go_at_call 30; (try rw [← HV.out]); refine (HS.out _).mono ?_; rintro e w1 ⟨rfl, hm⟩; have M1 := Lib.hid hm; clear hm)
                    | (go_at_call 31; (try rw [← HF.out]); refine (HA.out _).mono ?_; rintro e w2 ⟨rfl, hm⟩; have r1 := res_T (M1.out.on hm); have R1 := Lib.hid r1; obtain ⟨c0, c1, c2, c3, f0, f1, f2, f3⟩ := r1.1.facts; simp only [noT, noB] at c0 c1 c2 c3; clear hm r1))
                  exact end_T rfl R1.out.1 rfl rfl rfl HX.out R1.out.2 (Nat.le_refl _)
                · go_enter Try.func12, Try.ntmps12
                  go_wp2_with (first
                    | (go_at_call 30; (try rw [← HV.out]); refine (HS.out _).mono ?_; rintro e w1 ⟨rfl, hm⟩; have M1 := Lib.hid hm; clear hm)
                    | (go_at_call 31; (try rw [← HF.out]); refine (HA.out _).mono ?_; rintro e w2 ⟨rfl, hm⟩; have r1 := res_T (M1.out.on hm); have R1 := Lib.hid r1; obtain ⟨c0, c1, c2, c3, f0, f1, f2, f3⟩ := r1.1.facts; simp only [noT, noB] at c0 c1 c2 c3; clear hm r1))
                  exact end_T rfl R1.out.1 rfl rfl rfl HX.out R1.out.2 (Nat.le_refl _)
              | false =>
                rw [hb] at HS
                have HX := Lib.hid (parT_no hl hc ho hsa hb)
                clear hl hc ho hlen hsa hb hel hes hfl hv hf hsc
                rcases hopt with e2 | ⟨e2, e3⟩
                · go_enter Try.func12, Try.ntmps12
                  go_wp2_with (go_at_call 30; (try rw [← HV.out]); refine (HS.out _).mono ?_; rintro e w1 ⟨rfl, hm⟩; have r1 := res_T hm; have R1 := Lib.hid r1; obtain ⟨c0, c1, c2, c3, f0, f1, f2, f3⟩ := r1.1.facts; simp only [noT, noB] at c0 c1 c2 c3; clear hm r1)
                  exact end_T rfl R1.out.1 rfl rfl rfl HX.out R1.out.2 (Nat.le_refl _)
                · go_enter Try.func12, Try.ntmps12
                  go_wp2_with (go_at_call 30; (try rw [← HV.out]); refine (HS.out _).mono ?_; rintro e w1 ⟨rfl, hm⟩; have r1 := res_T hm; have R1 := Lib.hid r1; obtain ⟨c0, c1, c2, c3, f0, f1, f2, f3⟩ := r1.1.facts; simp only [noT, noB] at c0 c1 c2 c3; clear hm r1)
                  exact end_T rfl R1.out.1 rfl rfl rfl HX.out R1.out.2 (Nat.le_refl _)
            · have HX := Lib.hid (parT_no hl hc ho hsa (schemeL_short (by rw [hlen]; exact h7)))
              have e5 : decide ((7 : Int) ≤ (s.size : Int)) = false := decide_eq_false (by omega)
              clear hl hc ho hlen hsa
              rcases hopt with e2 | ⟨e2, e3⟩
              · go_enter Try.func12, Try.ntmps12
                go_wp2
                exact end_N rfl rfl rfl rfl HX.out
              · go_enter Try.func12, Try.ntmps12
                go_wp2
                exact end_N rfl rfl rfl rfl HX.out
end Go.Proofs.Ytgckpoecdaioiaa
