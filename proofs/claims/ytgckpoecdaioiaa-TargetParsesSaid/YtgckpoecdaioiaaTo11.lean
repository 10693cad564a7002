/- Parse of the code. Conditions: a method and a text of at most a million bytes. -/
import Derived.Test.YtgckpoecdaioiaaTn11
namespace Go.Proofs.Ytgckpoecdaioiaa
open Go.RowKit
set_option linter.unusedVariables false
set_option linter.unusedSimpArgs false

theorem schemeL_short {l : List UInt8} (h : ¬ 7 ≤ l.length) : schemeL l = false := by unfold schemeL; rw [decide_eq_false h]; rfl
theorem schemeL_long {l : List UInt8} (h : 7 ≤ l.length) : schemeL l = decide (lowL (l.take 7) = httpL) := by unfold schemeL; rw [decide_eq_true h]; rfl
theorem ext_to (s : ByteArray) (k : Nat) : (s.extract 0 k).data.toList = s.data.toList.take k := by
  rw [ByteArray.data_extract, Array.toList_extract]; rfl
set_option maxRecDepth 10000 in
theorem scheme_a (s : ByteArray) (hs : s.size ≤ 1000000) (w : World) : Calls Try.prog 25 #[.string s] w fun e w' => e = .returned (.bool (schemeL s.data.toList)) ∧ Mods [] w w' := by
  by_cases h7 : 7 ≤ s.size
  · have hel := ext_to s 7
    have hes := ext_le s 0 7
    obtain ⟨v, hv⟩ : ∃ v, v = s.extract 0 7 := ⟨_, rfl⟩
    rw [← hv] at hel hes
    have HV := Lib.hid hv
    have HS := Lib.hid (fun w => sameK v ⟨#[104, 116, 116, 112, 58, 47, 47]⟩ (by omega) (by decide) w)
    have HX := Lib.hid (show schemeL s.data.toList = sameL v ⟨#[104, 116, 116, 112, 58, 47, 47]⟩ by
      rw [schemeL_long (show 7 ≤ s.data.toList.length from h7), ← hel]
      unfold sameL
      rw [show lowL (⟨#[104, 116, 116, 112, 58, 47, 47]⟩ : ByteArray).data.toList = httpL by decide +kernel])
    have c7 : (7 : Int) ≤ (s.size : Int) := by omega
    clear hel hv
    go_enter Try.func25, Try.ntmps25
    go_wp2_with (go_at_call 46; (try rw [← HV.out]); refine (HS.out _).mono ?_; rintro e w1 ⟨rfl, hm⟩; have M1 := Lib.hid hm; clear hm)
    go_ret
    exact ⟨ret_bool HX.out.symm, M1.out⟩
  · have HX := Lib.hid (schemeL_short (l := s.data.toList) h7)
    have c7 : decide ((7 : Int) ≤ (s.size : Int)) = false := by simp; omega
    go_enter Try.func25, Try.ntmps25
    go_wp2
    go_ret
    exact ⟨ret_bool HX.out.symm, Mods.refl _ _⟩
theorem text_yes {s : ByteArray} {l : List UInt8} (h : s.data.toList = l) : s.toList = l := by rw [ByteArray.toList_eq]; exact h

set_option maxRecDepth 10000 in
set_option maxHeartbeats 1000000 in
theorem parse_a (m s : ByteArray) (w : World) (hm : m.size ≤ 1000000) (hs : s.size ≤ 900000) : Calls Try.prog 11 #[.string m, .string s] w (TAns w (parT m.data.toList s.data.toList)) := by
  have hlen := len_data s
  by_cases h200 : 200 < s.size
  · have HX := Lib.hid (parT_long (m := m.data.toList) (l := s.data.toList) h200)
    clear hlen
    go_enter Try.func11, Try.ntmps11
    go_wp2
    exact end_N rfl rfl rfl rfl HX.out
  · have h201 : decide (200 < s.size) = false := by simpa using h200
    have hl : ¬ 200 < s.data.toList.length := h200
    by_cases hc : m.data.toList = connectL
    · have hx := parT_con hl hc
      have e1 : (m.toList == [67, 79, 78, 78, 69, 67, 84]) = true := text_eq hc
      have HA := Lib.hid (fun w => authority_a s (by omega) w)
      unfold TAns at HA
      generalize authL s.data.toList = r at HA hx
      obtain ⟨⟨f, h, p, k⟩, n⟩ := r
      simp only [Tgt.cells] at HA
      have HX := Lib.hid hx
      clear hx hl hc hlen
      go_enter Try.func11, Try.ntmps11
      go_wp2_with (first
        | (go_at_call 22; refine (HA.out _).mono ?_; rintro e w2 ⟨rfl, hm⟩; have r2 := res_T (hm); have R2 := Lib.hid r2; obtain ⟨c0, c1, c2, c3, f0, f1, f2, f3⟩ := r2.1.facts; simp only [noT, noB] at c0 c1 c2 c3; clear hm r2))
      exact end_T rfl R2.out.1 rfl rfl rfl HX.out R2.out.2 (Nat.le_refl _)
    · have e1 : (m.toList == [67, 79, 78, 78, 69, 67, 84]) = false := text_ne hc
      by_cases ho : m.data.toList = optionsL ∧ s.data.toList = [42]
      · have HX := Lib.hid (parT_opt hl hc ho)
        have e2 : (m.toList == [79, 80, 84, 73, 79, 78, 83]) = true := text_eq ho.1
        have e3 : (s.toList == [42]) = true := text_eq ho.2
        clear hl hc ho hlen
        go_enter Try.func11, Try.ntmps11
        go_wp2
        exact end_N rfl rfl rfl rfl HX.out
      · have hopt : ((m.toList == [79, 80, 84, 73, 79, 78, 83]) = false) ∨ ((m.toList == [79, 80, 84, 73, 79, 78, 83]) = true ∧ (s.toList == [42]) = false) := by
          by_cases h1 : m.data.toList = optionsL
          · exact .inr ⟨text_eq h1, text_ne fun h2 => ho ⟨h1, h2⟩⟩
          · exact .inl (text_ne h1)
        have HS := Lib.hid (fun w => slash_a s w (by omega))
        cases hsl : slashL s.data.toList with
        | true =>
          rw [hsl] at HS
          have hx := parT_org hl hc ho hsl
          have HA := Lib.hid (fun w => origin_a s (by omega) w)
          rcases hopt with e2 | ⟨e2, e3⟩
          · unfold TAns at HA
            generalize orgF 1 noB s.data.toList = r at HA hx
            obtain ⟨⟨f, h, p, k⟩, n⟩ := r
            simp only [Tgt.cells] at HA
            have HX := Lib.hid hx
            clear hx hl hc hlen ho hsl
            go_enter Try.func11, Try.ntmps11
            go_wp2_with (first
              | (go_at_call 23; refine (HS.out _).mono ?_; rintro e w' ⟨rfl, rfl⟩)
              | (go_at_call 24; refine (HA.out _).mono ?_; rintro e w2 ⟨rfl, hm⟩; have r2 := res_T (hm); have R2 := Lib.hid r2; obtain ⟨c0, c1, c2, c3, f0, f1, f2, f3⟩ := r2.1.facts; simp only [noT, noB] at c0 c1 c2 c3; clear hm r2))
            exact end_T rfl R2.out.1 rfl rfl rfl HX.out R2.out.2 (Nat.le_refl _)
          · unfold TAns at HA
            generalize orgF 1 noB s.data.toList = r at HA hx
            obtain ⟨⟨f, h, p, k⟩, n⟩ := r
            simp only [Tgt.cells] at HA
            have HX := Lib.hid hx
            clear hx hl hc hlen ho hsl
            go_enter Try.func11, Try.ntmps11
            go_wp2_with (first
              | (go_at_call 23; refine (HS.out _).mono ?_; rintro e w' ⟨rfl, rfl⟩)
              | (go_at_call 24; refine (HA.out _).mono ?_; rintro e w2 ⟨rfl, hm⟩; have r2 := res_T (hm); have R2 := Lib.hid r2; obtain ⟨c0, c1, c2, c3, f0, f1, f2, f3⟩ := r2.1.facts; simp only [noT, noB] at c0 c1 c2 c3; clear hm r2))
            exact end_T rfl R2.out.1 rfl rfl rfl HX.out R2.out.2 (Nat.le_refl _)
        | false =>
          rw [hsl] at HS
          have HC := Lib.hid (fun w => scheme_a s (by omega) w)
          cases hsc : schemeL s.data.toList with
          | true =>
            rw [hsc] at HC
            have hx := parT_abs hl hc ho hsl hsc
            have h7 : 7 ≤ s.size := by
              rcases Nat.lt_or_ge s.size 7 with h | h
              · rw [schemeL_short (by rw [len_data]; omega)] at hsc; cases hsc
              · exact h
            have c7 : (7 : Int) ≤ (s.size : Int) := by omega
            have hvl := ext_from s 7
            have hvs := ext_le s 7 s.size
            obtain ⟨v, hv⟩ : ∃ v, v = s.extract 7 s.size := ⟨_, rfl⟩
            rw [← hv] at hvl hvs
            have HV := Lib.hid hv
            have HA := Lib.hid (fun w => absolute_a v (by omega) w)
            rw [hvl] at HA
            clear hv hvl
            rcases hopt with e2 | ⟨e2, e3⟩
            · unfold TAns at HA
              generalize absL (s.data.toList.drop 7) = r at HA hx
              obtain ⟨⟨f, h, p, k⟩, n⟩ := r
              simp only [Tgt.cells] at HA
              have HX := Lib.hid hx
              clear hx hl hc hlen ho hsl
              go_enter Try.func11, Try.ntmps11
              go_wp2_with (first
                | (go_at_call 23; refine (HS.out _).mono ?_; rintro e w' ⟨rfl, rfl⟩)
                | (go_at_call 25; refine (HC.out _).mono ?_; rintro e w1 ⟨rfl, hm⟩; have M1 := Lib.hid hm; clear hm)
                | (go_at_call 26; (try rw [← HV.out]); refine (HA.out _).mono ?_; rintro e w2 ⟨rfl, hm⟩; have r2 := res_T (M1.out.on hm); have R2 := Lib.hid r2; obtain ⟨c0, c1, c2, c3, f0, f1, f2, f3⟩ := r2.1.facts; simp only [noT, noB] at c0 c1 c2 c3; clear hm r2))
              exact end_T rfl R2.out.1 rfl rfl rfl HX.out R2.out.2 (Nat.le_refl _)
            · unfold TAns at HA
              generalize absL (s.data.toList.drop 7) = r at HA hx
              obtain ⟨⟨f, h, p, k⟩, n⟩ := r
              simp only [Tgt.cells] at HA
              have HX := Lib.hid hx
              clear hx hl hc hlen ho hsl
              go_enter Try.func11, Try.ntmps11
              go_wp2_with (first
                | (go_at_call 23; refine (HS.out _).mono ?_; rintro e w' ⟨rfl, rfl⟩)
                | (go_at_call 25; refine (HC.out _).mono ?_; rintro e w1 ⟨rfl, hm⟩; have M1 := Lib.hid hm; clear hm)
                | (go_at_call 26; (try rw [← HV.out]); refine (HA.out _).mono ?_; rintro e w2 ⟨rfl, hm⟩; have r2 := res_T (M1.out.on hm); have R2 := Lib.hid r2; obtain ⟨c0, c1, c2, c3, f0, f1, f2, f3⟩ := r2.1.facts; simp only [noT, noB] at c0 c1 c2 c3; clear hm r2))
              exact end_T rfl R2.out.1 rfl rfl rfl HX.out R2.out.2 (Nat.le_refl _)
          | false =>
            rw [hsc] at HC
            have HX := Lib.hid (parT_no hl hc ho hsl hsc)
            rcases hopt with e2 | ⟨e2, e3⟩
            · clear hl hc hlen ho hsl hsc
              go_enter Try.func11, Try.ntmps11
              go_wp2_with (first
                | (go_at_call 23; refine (HS.out _).mono ?_; rintro e w' ⟨rfl, rfl⟩)
                | (go_at_call 25; refine (HC.out _).mono ?_; rintro e w1 ⟨rfl, hm⟩; have r2 := res_T hm; have R2 := Lib.hid r2; obtain ⟨c0, c1, c2, c3, f0, f1, f2, f3⟩ := r2.1.facts; simp only [noT, noB] at c0 c1 c2 c3; clear hm r2))
              exact end_T rfl R2.out.1 rfl rfl rfl HX.out R2.out.2 (Nat.le_refl _)
            · clear hl hc hlen ho hsl hsc
              go_enter Try.func11, Try.ntmps11
              go_wp2_with (first
                | (go_at_call 23; refine (HS.out _).mono ?_; rintro e w' ⟨rfl, rfl⟩)
                | (go_at_call 25; refine (HC.out _).mono ?_; rintro e w1 ⟨rfl, hm⟩; have r2 := res_T hm; have R2 := Lib.hid r2; obtain ⟨c0, c1, c2, c3, f0, f1, f2, f3⟩ := r2.1.facts; simp only [noT, noB] at c0 c1 c2 c3; clear hm r2))
              exact end_T rfl R2.out.1 rfl rfl rfl HX.out R2.out.2 (Nat.le_refl _)
end Go.Proofs.Ytgckpoecdaioiaa
