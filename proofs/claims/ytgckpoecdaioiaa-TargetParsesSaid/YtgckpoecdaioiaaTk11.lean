/- A path and a query of the code (origin). Conditions: a text of at most a million bytes. -/
import Derived.Test.YtgckpoecdaioiaaTj11
namespace Go.Proofs.Ytgckpoecdaioiaa
open Go.RowKit
set_option linter.unusedVariables false
set_option linter.unusedSimpArgs false

theorem of_drewT {F : List Nat} {a w : World} (h : Mods F a.drew w) : Mods F a w := ⟨h.os, h.tape, h.output, h.size, h.block⟩
theorem cloneK (a : ByteArray) (hs : a.size ≤ 1000000) (w : World) : Calls Try.prog 45 #[.string a] w fun e w' => e = .returned (.string a) ∧ Mods [] w w' := by
  go_enter Try.func45, Try.ntmps45
  go_wp2_with fail
  refine (clone_shelf a _ (by omega)).mono ?_
  rintro e w2 ⟨rfl, hd⟩
  have H := Lib.hid hd
  clear hd
  go_wp2
  go_ret
  exact ⟨rfl, .of_below H.out⟩
theorem allow_plain {c : UInt8} (h : plainB c = true) : allowB c = true := by unfold allowB; rw [h]; rfl
theorem allow_37 {c : UInt8} (h : c = 37) : allowB c = true := by subst h; decide +kernel
theorem allow_63 {c : UInt8} (h : c = 63) : allowB c = true := by subst h; decide +kernel
theorem allow_no {c : UInt8} (h : plainB c = false) (h1 : c ≠ 37) (h2 : c ≠ 63) : allowB c = false := by
  unfold allowB isC; rw [h]; simp [h1, h2]
theorem all_bad {s : ByteArray} {k : Nat} (hk : k < s.size) {p : UInt8 → Bool} (h : p s[k] = false) : s.data.toList.all p = false := by
  rw [List.all_eq_false]
  exact ⟨s[k], List.getElem_mem (by exact hk), by simp [h]⟩
theorem decA_res (l : List UInt8) (d : List UInt8) (h : decL l = some d) : decA l = (ofL d, 0) := decA_yes h
theorem bytes_eqT {a b : ByteArray} (h : a = b) : (a.toList == b.toList) = true ∧ (a.toList != b.toList) = false := by subst h; simp
theorem bytes_neT {a b : ByteArray} (h : a ≠ b) : (a.toList == b.toList) = false ∧ (a.toList != b.toList) = true := by
  have : a.toList ≠ b.toList := fun e => h (bytes_ext (by rw [← ByteArray.toList_eq, ← ByteArray.toList_eq, e]))
  simpa using this
theorem up_eq {ends s u : ByteArray} (hu : u = upA ends s) (h : u.size = s.size) : u = s := by
  apply bytes_ext
  have h1 := upA_list ends s
  rw [← hu] at h1
  rw [h1]
  exact upL_len_full (by rw [← h1]; exact h)

set_option maxRecDepth 10000 in
set_option maxHeartbeats 2000000 in
theorem origin_a (s : ByteArray) (hs : s.size ≤ 1000000) (w : World) : Calls Try.prog 24 #[.string s] w (TAns w (orgF 1 noB s.data.toList)) := by
  have HU := Lib.hid (fun w => upto_a s ⟨#[63]⟩ hs w)
  have hul := up_63 s
  have hus := upA_size ⟨#[63]⟩ s
  have hue := up_eq (ends := ⟨#[63]⟩) (s := s) rfl
  obtain ⟨u, hu⟩ : ∃ u, u = upA ⟨#[63]⟩ s := ⟨_, rfl⟩
  rw [← hu] at HU hul hus hue
  have HUE := Lib.hid hue
  clear hu hue
  have hu1 : u.size ≤ 1000000 := by omega
  have HUL := Lib.hid hul
  clear hul
  have HD := Lib.hid (fun w => decode_a u hu1 w)
  go_enter Try.func24, Try.ntmps24
  go_wp2
  obtain ⟨w0, hw0⟩ : ∃ w0, w0 = w.alloc (.cells #[.int .i64 0, .string ⟨#[]⟩, .string ⟨#[]⟩, .string ⟨#[]⟩] 23) := ⟨_, rfl⟩
  obtain ⟨n0, hn0⟩ : ∃ n0, n0 = w.heap.size := ⟨_, rfl⟩
  have HR0 := Lib.hid (show Row w0 n0 23 noT.cells by rw [hw0, hn0]; exact Row.new w _ _)
  have HM0 := Lib.hid (show Mods [] w w0 by rw [hw0]; exact (Mods.refl [] w).alloc _)
  have HN0 := Lib.hid (show w.heap.size ≤ n0 by omega)
  rw [← hw0, ← hn0]
  clear hw0 hn0
  go_loop [13] (fun i => ∃ (k : Nat), k ≤ s.size ∧ i = .int .i64 k ∧ (s.data.toList.take k).all allowB = true) (fun i => s.size - (intOf i).toNat)
  case atStart => exact ⟨0, Nat.zero_le _, rfl, rfl⟩
  case round =>
    obtain ⟨k, hk, rfl, hall⟩ := hrel
    have HA := Lib.hid hall
    clear hall
    by_cases hlt : k < s.size
    · cases hp : plainB s[k] with
      | true =>
        have HN := Lib.hid (take_all hlt HA.out (allow_plain hp))
        have HC := Lib.hid (fun w => hp ▸ plain_a s[k] w)
        clear hp
        go_wp2_with (go_at_call 44; refine (HC.out _).mono ?_; rintro e w' ⟨rfl, rfl⟩)
        go_round
        case rel => exact ⟨k + 1, by omega, by go_num, HN.out⟩
        case measure => simp [intOf]; omega
      | false =>
        have HC := Lib.hid (fun w => hp ▸ plain_a s[k] w)
        by_cases h37 : s[k] = 37
        · have HN := Lib.hid (take_all hlt HA.out (allow_37 h37))
          have e1 : ((s[k].toNat : Int) != 37) = false := by rw [h37]; rfl
          clear hp h37
          go_wp2_with (go_at_call 44; refine (HC.out _).mono ?_; rintro e w' ⟨rfl, rfl⟩)
          go_round
          case rel => exact ⟨k + 1, by omega, by go_num, HN.out⟩
          case measure => simp [intOf]; omega
        · have e1 : ((s[k].toNat : Int) != 37) = true := by have := (b_no 37 h37).2; simpa using this
          by_cases h63 : s[k] = 63
          · have HN := Lib.hid (take_all hlt HA.out (allow_63 h63))
            have e2 : ((s[k].toNat : Int) != 63) = false := by rw [h63]; rfl
            clear hp h37 h63
            go_wp2_with (go_at_call 44; refine (HC.out _).mono ?_; rintro e w' ⟨rfl, rfl⟩)
            go_round
            case rel => exact ⟨k + 1, by omega, by go_num, HN.out⟩
            case measure => simp [intOf]; omega
          · have e2 : ((s[k].toNat : Int) != 63) = true := by have := (b_no 63 h63).2; simpa using this
            have HX := Lib.hid (orgF_no (f := 1) (h := noB) (orgL_bad (all_bad hlt (allow_no hp h37 h63))))
            clear hp h37 h63
            obtain ⟨c0, c1, c2, c3, f0, f1, f2, f3⟩ := HR0.out.facts
            simp only [noT, noB] at c0 c1 c2 c3
            go_wp2_with (go_at_call 44; refine (HC.out _).mono ?_; rintro e w' ⟨rfl, rfl⟩)
            exact end_T rfl HR0.out rfl rfl rfl HX.out (HM0.out) HN0.out
    · have hal := take_end hlt HA.out
      have HAL := Lib.hid hal
      clear hal
      cases hd : decL u.data.toList with
      | none =>
        have HX := Lib.hid (orgF_no (f := 1) (h := noB) (orgL_dec HAL.out (by rw [← HUL.out]; exact hd)))
        rw [decA_no hd] at HD
        clear hd
        go_wp2_with (first
          | (go_at_call 36; refine (HU.out _).mono ?_; rintro e w' ⟨rfl, rfl⟩)
          | (go_at_call 16; refine (HD.out _).mono ?_; rintro e w1 ⟨rfl, hm⟩; have M1 := Lib.hid hm; have R1 := Lib.hid (HR0.out.mods hm (by simp)); obtain ⟨c0, c1, c2, c3, f0, f1, f2, f3⟩ := R1.out.facts; simp only [noT, noB] at c0 c1 c2 c3; clear hm))
        exact end_T rfl R1.out rfl rfl rfl HX.out (HM0.out.on M1.out) HN0.out
      | some d =>
        have hds : d.length ≤ 1000000 := by have := decL_len _ _ hd; rw [len_data] at this; omega
        rw [decA_yes hd] at HD
        have HCL := Lib.hid (fun w => clean_a (ofL d) (by rw [ofL_size]; exact hds) w)
        rw [ofL_list] at HCL
        cases hc : clnL d with
        | none =>
          have HX := Lib.hid (orgF_no (f := 1) (h := noB) (orgL_cln HAL.out (by rw [← HUL.out]; exact hd) hc))
          rw [clnA_no hc] at HCL
          clear hd hc hds
          go_wp2_with (first
            | (go_at_call 36; refine (HU.out _).mono ?_; rintro e w' ⟨rfl, rfl⟩)
            | (go_at_call 16; refine (HD.out _).mono ?_; rintro e w1 ⟨rfl, hm⟩; have M1 := Lib.hid hm; have R1 := Lib.hid (HR0.out.mods hm (by simp)); clear hm)
            | (go_at_call 18; refine (HCL.out _).mono ?_; rintro e w2 ⟨rfl, hm⟩; have M2 := Lib.hid (M1.out.on hm); have R2 := Lib.hid (R1.out.mods hm (by simp)); obtain ⟨c0, c1, c2, c3, f0, f1, f2, f3⟩ := R2.out.facts; simp only [noT, noB] at c0 c1 c2 c3; clear hm))
          exact end_T rfl R2.out rfl rfl rfl HX.out (HM0.out.on M2.out) HN0.out
        | some p =>
          have hx := orgF_yes (f := 1) (h := noB) (orgL_yes HAL.out (by rw [← HUL.out]; exact hd) hc)
          rw [← HUL.out, len_data] at hx
          rw [clnA_yes hc] at HCL
          clear hd hc hds
          go_upto_region 14 with (first
            | (go_at_call 36; refine (HU.out _).mono ?_; rintro e w' ⟨rfl, rfl⟩)
            | (go_at_call 16; refine (HD.out _).mono ?_; rintro e w1 ⟨rfl, hm⟩; have M1 := Lib.hid hm; have R1 := Lib.hid (HR0.out.mods hm (by simp)); clear hm)
            | (go_at_call 18; refine (HCL.out _).mono ?_; rintro e w2 ⟨rfl, hm⟩; have M2 := Lib.hid (M1.out.on hm); have R2 := Lib.hid (R1.out.mods hm (by simp)); clear hm))
          obtain ⟨x, hxx⟩ : ∃ x, x = ofL p := ⟨_, rfl⟩
          rw [← hxx] at hx
          rw [← hxx]
          clear hxx
          go_upto_region 15 with fail
          obtain ⟨w3, hw3⟩ : ∃ w3, w3 = w2.alloc (.cells #[.int .i64 1, .string ⟨#[]⟩, .string x, .string ⟨#[]⟩] 23) := ⟨_, rfl⟩
          obtain ⟨n1, hn1⟩ : ∃ n1, n1 = w2.heap.size := ⟨_, rfl⟩
          have hr3 : Row w3 n0 23 noT.cells := by rw [hw3]; exact R2.out.alloc _
          have ht3 : Row w3 n1 23 (⟨1, noB, x, noB⟩ : Tgt).cells := by rw [hw3, hn1]; exact Row.new w2 _ _
          have hm3 : Mods [] w w3 := by rw [hw3]; exact (HM0.out.on M2.out).alloc _
          have hne : n0 < n1 := by rw [hn1]; exact R2.out.lt
          rw [← hw3, ← hn1]
          clear hw3 hn1 M1 M2 R1 R2 HCL HD
          have HR3 := Lib.hid hr3
          have HT3 := Lib.hid ht3
          have HM3 := Lib.hid hm3
          clear hr3 ht3 hm3
          by_cases hz : u.size = s.size
          · have huse := HUE.out hz
            have e1 := (bytes_eqT huse).1
            have HX := Lib.hid (show orgF 1 noB s.data.toList = (⟨1, noB, x, noB⟩, 0) by
              rw [hx, hz, List.drop_of_length_le (by rw [len_data]; omega)]; rfl)
            clear huse hz hx
            obtain ⟨c0, c1, c2, c3, f0, f1, f2, f3⟩ := HR3.out.facts
            obtain ⟨d0, d1, d2, d3, -, -, -, -⟩ := HT3.out.facts
            simp only [noT, noB] at c0 c1 c2 c3 d0 d1 d2 d3
            go_wp2
            exact end_T rfl HR3.out rfl rfl rfl HX.out HM3.out HN0.out
          · have huse : u ≠ s := fun e => hz (by rw [e])
            have e1 := (bytes_neT huse).1
            have c4 : (0 : Int) ≤ (u.size : Int) + 1 := by omega
            have c5 : (u.size : Int) + 1 ≤ (s.size : Int) := by omega
            have hvl := ext_from s (u.size + 1)
            have hvs := ext_le s (u.size + 1) s.size
            obtain ⟨v, hv⟩ : ∃ v, v = s.extract (u.size + 1) s.size := ⟨_, rfl⟩
            rw [← hv] at hvl hvs
            have HV := Lib.hid hv
            have HX := Lib.hid (show orgF 1 noB s.data.toList = (⟨1, noB, x, v⟩, 0) by rw [hx, ← hvl, ofL_data])
            have HCL := Lib.hid (fun w => cloneK v (by omega) w)
            clear huse hz hx hvl hv
            go_upto_region 17 with (go_at_call 45; rw [← HV.out]; refine (HCL.out _).mono ?_; rintro e w4 ⟨rfl, hm⟩; have R4 := Lib.hid (HR3.out.mods hm (by simp)); have T4 := Lib.hid (HT3.out.mods hm (by simp)); have M4 := Lib.hid (HM3.out.on hm); have t3 := T4.out.cell 3; have tf := T4.out.free 3; simp only [Tgt.cells, List.getElem?_toArray, List.getElem?_cons_zero, List.getElem?_cons_succ, noB] at t3; clear hm)
            obtain ⟨w5, hw5⟩ : ∃ w5, w5 = w4.setCell ⟨n1, 3, none⟩ (.string v) := ⟨_, rfl⟩
            have hr5 : Row w5 n0 23 noT.cells := by rw [hw5]; exact R4.out.far (p := ⟨n1, 3, none⟩) (by show n0 ≠ n1; omega) (.string v)
            have ht5 : Row w5 n1 23 (⟨1, noB, x, v⟩ : Tgt).cells := by rw [hw5]; exact T4.out.set 3 (.string v)
            have hm5 : Mods [] w w5 := by rw [hw5]; exact M4.out.setCell (p := ⟨n1, 3, none⟩) (.inr (by show _ ≤ n1; have := HN0.out; omega)) _
            rw [← hw5]
            clear hw5 t3 tf R4 T4 M4 HR3 HT3 HM3
            have HR5 := Lib.hid hr5
            have HT5 := Lib.hid ht5
            have HM5 := Lib.hid hm5
            clear hr5 ht5 hm5
            obtain ⟨c0, c1, c2, c3, f0, f1, f2, f3⟩ := HR5.out.facts
            obtain ⟨d0, d1, d2, d3, -, -, -, -⟩ := HT5.out.facts
            simp only [noT, noB] at c0 c1 c2 c3 d0 d1 d2 d3
            go_wp2
            exact end_T rfl HR5.out rfl rfl rfl HX.out HM5.out HN0.out
end Go.Proofs.Ytgckpoecdaioiaa
