/- The walk of the code's param. Conditions: a text of at most a million bytes. -/
import Derived.Test.YtfnjkkjpffnbiaaDoorPp9
namespace Go.Proofs.YtfnjkkjpffnbiaaDoor
open Go.RowKit
set_option linter.unusedVariables false

set_option maxRecDepth 10000 in
set_option maxHeartbeats 2000000 in
theorem param_a (s : ByteArray) (w : World) (hs : s.size ≤ 1000000) : Calls Tryd.prog 34 #[.string s] w (PAns w s) := by
  have hz0 : (zeroValue 51).run Tryd.prog w = .ok (.agg #[.string { data := #[] }, .string { data := #[] }]) w := by kernel_rfl
  have hN0 := PB.new 51 w ⟨#[]⟩ ⟨#[]⟩
  have HN0 := Lib.hid hN0
  have HL0 := Lib.hid ((Below.refl w.heap.size w).alloc (Nat.le_refl _) (.cells #[.string { data := #[] }, .string { data := #[] }] 51))
  clear hN0
  by_cases h59 : ∃ r, s.data.toList = 59 :: r
  · obtain ⟨r, hr⟩ := h59
    have hC := cut_yes hr
    obtain ⟨B0, hB0⟩ : ∃ B0, B0 = ba r := ⟨_, rfl⟩
    rw [← hB0] at hC
    have hsz : s.size = r.length + 1 := by have : s.data.toList.length = s.size := rfl; rw [← this, hr]; rfl
    have hb0 : B0.size ≤ 1000000 := by rw [hB0, ba_size]; omega
    have hS := fun w => skip_a B0 w
    obtain ⟨B1, hB1⟩ : ∃ B1, B1 = skipB B0 := ⟨_, rfl⟩
    rw [← hB1] at hS
    have hb1 : B1.size ≤ 1000000 := by rw [hB1]; exact Nat.le_trans (skipB_size _) hb0
    have hF := fun w => first_a B1 w hb1
    obtain ⟨B2, hB2⟩ : ∃ B2, B2 = firstB B1 := ⟨_, rfl⟩
    rw [← hB2] at hF
    have hb2 : B2.size ≤ B1.size := by rw [hB2]; exact firstB_size _
    have e1 : B1.data.toList = tlL r := by rw [hB1, hB0]; rfl
    have e2 : B2.data.toList = tw (tlL r) := by rw [hB2]; show tw B1.data.toList = _; rw [e1]
    have HE1 := Lib.hid e1
    have HE2 := Lib.hid e2
    have HR := Lib.hid hr
    clear hB0 hB1 hB2 e1 e2 hr
    by_cases ht : tw (tlL r) = []
    · have hz : B2.size = 0 := by rw [← len_data, HE2.out, ht]; rfl
      have hz2 := emp_yes hz
      have hz3 : B2.toList.isEmpty = true := by rw [hz2]; rfl
      have HP := Lib.hid (pres_none (s := s) (by rw [HR.out]; unfold pStep; simp [ht]))
      clear hz ht
      go_enter Tryd.func34, Tryd.ntmps34
      go_wp2_with (first
        | (go_at_call 48; refine (hC _).mono ?_; rintro e w' ⟨rfl, rfl⟩)
        | (go_at_call 33; refine (hS _).mono ?_; rintro e w2 ⟨rfl, hb⟩; have hl := HL0.out.trans (hb.mono (by simp)); have HL1 := Lib.hid hl; have hp := HN0.out.below hb (by simp); have k0 := hp.c0; have k1 := hp.c1; have g0 := hp.f0; have g1 := hp.f1; have HN1 := Lib.hid hp; clear hb hp hl)
        | (go_at_call 49; refine (hF _).mono ?_; rintro e w3 ⟨rfl, hb⟩; have hl := HL1.out.trans (hb.mono HL1.out.size); have HL2 := Lib.hid hl; have hp := HN1.out.below hb HN1.out.lt; have k2 := hp.c0; have k3 := hp.c1; have g2 := hp.f0; have g3 := hp.f1; have HN2 := Lib.hid hp; clear hb hp hl))
      exact ret_param rfl ((HN2.out.set0 _).set1 _) rfl rfl rfl ⟨by rw [HP.out]; rfl, (HL2.out.setCell (p := ⟨w.heap.size, 0, none⟩) (Nat.le_refl _) _).setCell (p := ⟨w.heap.size, 1, none⟩) (Nat.le_refl _) _⟩
    · obtain ⟨hz2, hz3⟩ := emp_no (s := B2) (show 0 < B2.size by rw [← len_data, HE2.out]; exact List.length_pos_iff.2 ht)
      have hx : (B1.extract B2.size B1.size).data.toList = dwt (tlL r) := by
        rw [ext_drop, HE1.out]
        have : B2.size = (tw (tlL r)).length := by rw [← HE2.out]; rfl
        rw [this]; exact dwt_drop _
      have hdl : (dwt (tlL r)).length ≤ r.length := by
        have h1 := congrArg List.length (tw_dwt (tlL r)); rw [List.length_append] at h1
        have := tlL_le r; omega
      by_cases h61 : ∃ r3, dwt (tlL r) = 61 :: r3
      · obtain ⟨r3, hr3⟩ := h61
        have hC2 := cut_yes (hx.trans hr3)
        obtain ⟨B3, hB3⟩ : ∃ B3, B3 = ba r3 := ⟨_, rfl⟩
        rw [← hB3] at hC2
        have hl3 : B3.size + 1 ≤ r.length := by rw [hB3, ba_size]; have := congrArg List.length hr3; simp only [List.length_cons] at this; omega
        have hl3s : B3.size ≤ s.size := by omega
        have hT := fun w => toq_a B3 w (by omega)
        obtain ⟨B4, hB4⟩ : ∃ B4 : ByteArray, B4 = ⟨(toqL B3.data.toList).1.toArray⟩ := ⟨_, rfl⟩
        obtain ⟨m, hm⟩ : ∃ m, m = (toqL B3.data.toList).2 := ⟨_, rfl⟩
        rw [← hB4, ← hm] at hT
        have hml : m ≤ B3.size := by rw [hm]; exact (toq_le _).1
        have e3 : B3.data.toList = r3 := by rw [hB3]; rfl
        rw [e3] at hm hB4
        by_cases h0 : m = 0
        · have HP := Lib.hid (pres_none (s := s) (by rw [HR.out]; unfold pStep; simp only [if_true]; rw [if_neg ht, hr3]; simp only [if_true]; rw [if_pos (by rw [← hm]; exact h0)]))
          subst h0
          clear hx hr3 hB3 hB4 hm e3 ht hdl hsz
          go_enter Tryd.func34, Tryd.ntmps34
          go_wp2_with (first
            | (go_at_call 48; refine (hC _).mono ?_; rintro e w' ⟨rfl, rfl⟩; clear hC)
            | (go_at_call 48; refine (hC2 _).mono ?_; rintro e w' ⟨rfl, rfl⟩; clear hC2)
            | (go_at_call 33; refine (hS _).mono ?_; rintro e w2 ⟨rfl, hb⟩; have hl := HL0.out.trans (hb.mono (by simp)); have HL1 := Lib.hid hl; have hp := HN0.out.below hb (by simp); have k0 := hp.c0; have k1 := hp.c1; have g0 := hp.f0; have g1 := hp.f1; have HN1 := Lib.hid hp; clear hb hp hl)
            | (go_at_call 49; refine (hF _).mono ?_; rintro e w3 ⟨rfl, hb⟩; have hl := HL1.out.trans (hb.mono HL1.out.size); have HL2 := Lib.hid hl; have hp := HN1.out.below hb HN1.out.lt; have k2 := hp.c0; have k3 := hp.c1; have g2 := hp.f0; have g3 := hp.f1; have HN2 := Lib.hid hp; clear hb hp hl)
            | (go_at_call 50; refine (hT _).mono ?_; rintro e w4 ⟨rfl, hb⟩; have hl := HL2.out.trans (hb.mono HL2.out.size); have HL3 := Lib.hid hl; have hp := HN2.out.below hb HN2.out.lt; have k4 := hp.c0; have k5 := hp.c1; have g4 := hp.f0; have g5 := hp.f1; have HN3 := Lib.hid hp; clear hb hp hl))
          exact ret_param rfl ((HN3.out.set0 _).set1 _) rfl rfl rfl ⟨by rw [HP.out]; rfl, (HL3.out.setCell (p := ⟨w.heap.size, 0, none⟩) (Nat.le_refl _) _).setCell (p := ⟨w.heap.size, 1, none⟩) (Nat.le_refl _) _⟩
        · have HP := Lib.hid (pres_some (s := s) (p := (tw (tlL r), (toqL r3).1)) (rest := r3.drop m) (by rw [HR.out]; unfold pStep; simp only [if_true]; rw [if_neg ht, hr3]; simp only [if_true]; rw [if_neg (by rw [← hm]; exact h0), hm]))
          have hmz : ((m : Int) == 0) = false := by rw [beq_eq_false_iff_ne]; omega
          have HB2 := Lib.hid (show B2 = ba (tw (tlL r)) by rw [← HE2.out]; exact (ba_data _).symm)
          have HB4 := Lib.hid (show B4 = ba (toqL r3).1 from hB4)
          have HN := Lib.hid (show (((s.size - (r3.drop m).length : Nat)) : Int) = (s.size : Int) - (B3.size : Int) + (m : Int) by
            have : r3.length = B3.size := by rw [hB3]; rfl
            rw [List.length_drop]; omega)
          clear hx hr3 hB3 hB4 hm e3 ht hdl h0 hsz
          go_enter Tryd.func34, Tryd.ntmps34
          go_wp2_with (first
            | (go_at_call 48; refine (hC _).mono ?_; rintro e w' ⟨rfl, rfl⟩; clear hC)
            | (go_at_call 48; refine (hC2 _).mono ?_; rintro e w' ⟨rfl, rfl⟩; clear hC2)
            | (go_at_call 33; refine (hS _).mono ?_; rintro e w2 ⟨rfl, hb⟩; have hl := HL0.out.trans (hb.mono (by simp)); have HL1 := Lib.hid hl; have hp := HN0.out.below hb (by simp); have k0 := hp.c0; have k1 := hp.c1; have g0 := hp.f0; have g1 := hp.f1; have HN1 := Lib.hid hp; clear hb hp hl)
            | (go_at_call 49; refine (hF _).mono ?_; rintro e w3 ⟨rfl, hb⟩; have hl := HL1.out.trans (hb.mono HL1.out.size); have HL2 := Lib.hid hl; have hp := HN1.out.below hb HN1.out.lt; have k2 := hp.c0; have k3 := hp.c1; have g2 := hp.f0; have g3 := hp.f1; have HN2 := Lib.hid hp; clear hb hp hl)
            | (go_at_call 50; refine (hT _).mono ?_; rintro e w4 ⟨rfl, hb⟩; have hl := HL2.out.trans (hb.mono HL2.out.size); have HL3 := Lib.hid hl; have hp := HN2.out.below hb HN2.out.lt; have k4 := hp.c0; have k5 := hp.c1; have g4 := hp.f0; have g5 := hp.f1; have HN3 := Lib.hid hp; clear hb hp hl))
          exact ret_param rfl ((HN3.out.set0 _).set1 _) rfl rfl rfl ⟨by rw [HP.out, HB2.out, HB4.out, HN.out]; rfl, (HL3.out.setCell (p := ⟨w.heap.size, 0, none⟩) (Nat.le_refl _) _).setCell (p := ⟨w.heap.size, 1, none⟩) (Nat.le_refl _) _⟩
      · have hC20 := cut_no (s := B1.extract B2.size B1.size) (c := 61) (fun r3 e => h61 ⟨r3, hx.symm.trans e⟩)
        obtain ⟨B3, hB3⟩ : ∃ B3, B3 = B1.extract B2.size B1.size := ⟨_, rfl⟩
        have hC2 : ∀ w, Calls Tryd.prog 48 #[.string (B1.extract B2.size B1.size), .string { data := #[61] }] w fun e w' => e = .returned (.tuple #[.string B3, .bool false]) ∧ w = w' := fun w => by rw [hB3]; exact hC20 w
        have hl3 : B3.size ≤ r.length := by rw [← len_data, hB3, hx]; exact hdl
        have hl3s : B3.size ≤ s.size := by omega
        have HP := Lib.hid (pres_some (s := s) (p := (tw (tlL r), [])) (rest := dwt (tlL r)) (by
          rw [HR.out]; unfold pStep; simp only [if_true]; rw [if_neg ht]
          cases hd : dwt (tlL r) with
          | nil => rfl
          | cons e r3 =>
            have he : e ≠ 61 := fun e' => h61 ⟨r3, by rw [hd, e']⟩
            simp only [if_neg he]))
        have HB2 := Lib.hid (show B2 = ba (tw (tlL r)) by rw [← HE2.out]; exact (ba_data _).symm)
        have HN := Lib.hid (show (((s.size - (dwt (tlL r)).length : Nat)) : Int) = (s.size : Int) - (B3.size : Int) by
          have : (dwt (tlL r)).length = B3.size := by rw [hB3, ← hx]; rfl
          omega)
        clear hC20 hx hB3 ht hdl h61 hsz
        go_enter Tryd.func34, Tryd.ntmps34
        go_wp2_with (first
          | (go_at_call 48; refine (hC _).mono ?_; rintro e w' ⟨rfl, rfl⟩; clear hC)
          | (go_at_call 48; refine (hC2 _).mono ?_; rintro e w' ⟨rfl, rfl⟩; clear hC2)
          | (go_at_call 33; refine (hS _).mono ?_; rintro e w2 ⟨rfl, hb⟩; have hl := HL0.out.trans (hb.mono (by simp)); have HL1 := Lib.hid hl; have hp := HN0.out.below hb (by simp); have k0 := hp.c0; have k1 := hp.c1; have g0 := hp.f0; have g1 := hp.f1; have HN1 := Lib.hid hp; clear hb hp hl)
          | (go_at_call 49; refine (hF _).mono ?_; rintro e w3 ⟨rfl, hb⟩; have hl := HL1.out.trans (hb.mono HL1.out.size); have HL2 := Lib.hid hl; have hp := HN1.out.below hb HN1.out.lt; have k2 := hp.c0; have k3 := hp.c1; have g2 := hp.f0; have g3 := hp.f1; have HN2 := Lib.hid hp; clear hb hp hl))
        exact ret_param rfl ((HN2.out.set0 _).set1 _) rfl rfl rfl ⟨by rw [HP.out, HB2.out, HN.out]; rfl, (HL2.out.setCell (p := ⟨w.heap.size, 0, none⟩) (Nat.le_refl _) _).setCell (p := ⟨w.heap.size, 1, none⟩) (Nat.le_refl _) _⟩
  · have hC := cut_no (s := s) (c := 59) (fun r e => h59 ⟨r, e⟩)
    have HP := Lib.hid (pres_none (s := s) (by
      unfold pStep
      cases hl : s.data.toList with
      | nil => rfl
      | cons c r => have hc : c ≠ 59 := fun e => h59 ⟨r, by rw [hl, e]⟩
                    simp [hc]))
    clear h59
    go_enter Tryd.func34, Tryd.ntmps34
    go_wp2_with (go_at_call 48; refine (hC _).mono ?_; rintro e w' ⟨rfl, rfl⟩)
    exact ret_param rfl HN0.out rfl rfl rfl ⟨by rw [HP.out]; rfl, HL0.out⟩
end Go.Proofs.YtfnjkkjpffnbiaaDoor
