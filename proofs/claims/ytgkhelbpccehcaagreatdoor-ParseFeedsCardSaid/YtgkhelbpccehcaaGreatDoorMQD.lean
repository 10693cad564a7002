/- Absolute targets and Parse of the code. Conditions: a method and a text of at most a million bytes. -/
import Derived.Test.YtgkhelbpccehcaaGreatDoorMQC
import Derived.Test.YtgkhelbpccehcaaGreatDoorLowerR
import Derived.OwnWalk
import Derived.Test.YtgkhelbpccehcaaGreatDoorLiM
import Derived.Test.YtgkhelbpccehcaaGreatDoorMQA
import Derived.Test.YtgkhelbpccehcaaGreatDoorMQB
import Derived.Test.YtgkhelbpccehcaaGreatDoorDigits
import Derived.Test.YtgkhelbpccehcaaGreatDoorHs9
namespace Go.Proofs.YtgkhelbpccehcaaGreatDoor
open Go.RowKit
set_option linter.unusedVariables false
set_option linter.unusedSimpArgs false

set_option maxRecDepth 10000 in
set_option maxHeartbeats 400000 in
theorem absolute_a (s : ByteArray) (hs : s.size ≤ 900000) (w : World) : Calls Tryz.prog 133 #[.string s] w (TAns w (absL s.data.toList)) := by
  have HU := Lib.hid (fun w => upto_a s ⟨#[47, 63]⟩ (by omega) w)
  have hul := up_end s
  have hus := upA_size ⟨#[47, 63]⟩ s
  obtain ⟨u, hu⟩ : ∃ u, u = upA ⟨#[47, 63]⟩ s := ⟨_, rfl⟩
  rw [← hu] at HU hul hus
  clear hu
  have HUL := Lib.hid hul
  have hlen : (hostOf s.data.toList).length = u.size := by rw [← hul]; rfl
  have HH := Lib.hid (fun w => host_a u w (by omega))
  clear hul
  rw [HUL.out] at HH
  cases hh : hostL (hostOf s.data.toList) with
  | false =>
    rw [hh] at HH
    have HX := Lib.hid (absL_no hh)
    clear hh hlen
    go_enter Tryz.func133, Tryz.ntmps133
    go_wp2_with (first
      | (go_at_call 149; refine (HU.out _).mono ?_; rintro e w' ⟨rfl, rfl⟩)
      | (go_at_call 148; refine (HH.out _).mono ?_; rintro e w' ⟨rfl, rfl⟩))
    exact end_N rfl rfl rfl rfl HX.out
  | true =>
    rw [hh] at HH
    have hx := absL_yes hh
    have hvl := ext_from s u.size
    have hvs := ext_le s u.size s.size
    have c1 : (0 : Int) ≤ (u.size : Int) := by omega
    have c2 : (u.size : Int) ≤ (s.size : Int) := by omega
    obtain ⟨v, hv⟩ : ∃ v, v = s.extract u.size s.size := ⟨_, rfl⟩
    rw [← hv] at hvl hvs
    have HV := Lib.hid hv
    have HS := Lib.hid (fun w => slash_a v w (by omega))
    have hrest : restOf s.data.toList = if slashL v.data.toList = true then v.data.toList else 47 :: v.data.toList := by unfold restOf; rw [hlen, hvl]
    have HL := Lib.hid (fun w => lowerK u (by omega) w)
    rw [HUL.out] at HL
    obtain ⟨lh, hlh⟩ : ∃ lh, lh = ofL (lowL (hostOf s.data.toList)) := ⟨_, rfl⟩
    rw [← hlh] at hx HL
    clear hh hlen hlh hv hvl
    cases hsl : slashL v.data.toList with
    | false =>
      rw [hsl] at HS hrest
      rw [if_neg (by simp)] at hrest
      have HJ := Lib.hid (fun w b hb => join2 ⟨#[47]⟩ v (by decide) (by omega) w b hb)
      have hjl : (ofL ((⟨#[47]⟩ : ByteArray).data.toList ++ v.data.toList)).data.toList = restOf s.data.toList := by rw [ofL_list, hrest]; rfl
      have hjs : (ofL ((⟨#[47]⟩ : ByteArray).data.toList ++ v.data.toList)).size ≤ 1000000 := by rw [ofL_size, List.length_append, len_data, len_data]; show 1 + _ ≤ _; omega
      obtain ⟨jt, hjt⟩ : ∃ jt, jt = ofL ((⟨#[47]⟩ : ByteArray).data.toList ++ v.data.toList) := ⟨_, rfl⟩
      rw [← hjt] at HJ hjl hjs
      have HO := Lib.hid (fun w => origin_a jt hjs w)
      rw [hjl] at HO
      clear hjl hjt
      unfold TAns at HO
      clear hsl hrest
      rcases orgF_cases (restOf s.data.toList) with hc | ⟨p, q, hc⟩
      · rw [orgF_no hc] at HO
        simp only [Tgt.cells, noT, noB] at HO
        have HX := Lib.hid (hx.trans (orgF_no hc))
        clear hc hx
        go_enter Tryz.func133, Tryz.ntmps133
        go_upto_region 8 with (first
          | (go_at_call 149; refine (HU.out _).mono ?_; rintro e w' ⟨rfl, rfl⟩)
          | (go_at_call 148; refine (HH.out _).mono ?_; rintro e w' ⟨rfl, rfl⟩)
          | (go_at_call 130; (try rw [← HV.out]); refine (HS.out _).mono ?_; rintro e w' ⟨rfl, rfl⟩)
          | (go_at_call 155; (try rw [← HV.out]); refine Calls.mono (HJ.out _ _ (by simp)) ?_; rintro e w1 ⟨rfl, hm⟩; have r1 := res_T hm; have R1 := Lib.hid r1; clear hm r1)
          | (go_at_call 131; refine (HO.out _).mono ?_; rintro e w2 ⟨rfl, hm⟩; have R2 := Lib.hid (And.intro (R1.out.1.mods hm (by simp)) (R1.out.2.on hm)); clear hm))
        obtain ⟨w3, hw3⟩ : ∃ w3, w3 = w2.alloc (.cells #[.int .i64 0, .string noB, .string noB, .string noB] 37) := ⟨_, rfl⟩
        have hr3 : Row w3 w.heap.size 37 noT.cells := by rw [hw3]; exact R2.out.1.alloc _
        have hm3 : Mods [] w w3 := by rw [hw3]; exact R2.out.2.alloc _
        simp only [noB] at hw3
        rw [← hw3]
        clear hw3 R2
        have R3 := Lib.hid (And.intro hr3 hm3)
        clear hr3 hm3
        obtain ⟨c0, c1, c2, c3, f0, f1, f2, f3⟩ := R3.out.1.facts
        simp only [noT, noB] at c0 c1 c2 c3
        go_wp2
        exact end_T rfl R3.out.1 rfl rfl rfl HX.out R3.out.2 (Nat.le_refl _)
      · rw [orgF_yes hc] at HO
        have hx2 := hx.trans (orgF_yes hc)
        obtain ⟨pa, hpa⟩ : ∃ pa, pa = ofL p := ⟨_, rfl⟩
        obtain ⟨qa, hqa⟩ : ∃ qa, qa = ofL q := ⟨_, rfl⟩
        rw [← hpa, ← hqa] at HO hx2
        simp only [Tgt.cells, noB] at HO
        have HX := Lib.hid hx2
        clear hc hx hx2 hpa hqa
        go_enter Tryz.func133, Tryz.ntmps133
        go_upto_region 8 with (first
          | (go_at_call 149; refine (HU.out _).mono ?_; rintro e w' ⟨rfl, rfl⟩)
          | (go_at_call 148; refine (HH.out _).mono ?_; rintro e w' ⟨rfl, rfl⟩)
          | (go_at_call 130; (try rw [← HV.out]); refine (HS.out _).mono ?_; rintro e w' ⟨rfl, rfl⟩)
          | (go_at_call 155; (try rw [← HV.out]); refine Calls.mono (HJ.out _ _ (by simp)) ?_; rintro e w1 ⟨rfl, hm⟩; have r1 := res_T hm; have R1 := Lib.hid r1; clear hm r1)
          | (go_at_call 131; refine (HO.out _).mono ?_; rintro e w2 ⟨rfl, hm⟩; have R2 := Lib.hid (And.intro (R1.out.1.mods hm (by simp)) (R1.out.2.on hm)); clear hm))
        obtain ⟨w3, hw3⟩ : ∃ w3, w3 = w2.alloc (.cells #[.int .i64 1, .string noB, .string pa, .string qa] 37) := ⟨_, rfl⟩
        obtain ⟨n1, hn1⟩ : ∃ n1, n1 = w2.heap.size := ⟨_, rfl⟩
        obtain ⟨n0, hn0⟩ : ∃ n0, n0 = w.heap.size := ⟨_, rfl⟩
        have hr3 : Row w3 n0 37 noT.cells := by rw [hw3, hn0]; exact R2.out.1.alloc _
        have ht3 : Row w3 n1 37 (⟨1, noB, pa, qa⟩ : Tgt).cells := by rw [hw3, hn1]; exact Row.new w2 _ _
        have hm3 : Mods [] w w3 := by rw [hw3]; exact R2.out.2.alloc _
        have hne : n0 < n1 := by rw [hn1, hn0]; exact R2.out.1.lt
        have HN0 := Lib.hid (show w.heap.size ≤ n0 by omega)
        rw [← hn1, ← hn0]
        simp only [noB] at hw3 ⊢
        rw [← hw3]
        clear hw3 hn1 hn0 R2
        have HR3 := Lib.hid hr3
        have HT3 := Lib.hid ht3
        have HM3 := Lib.hid hm3
        clear hr3 ht3 hm3
        go_upto_region 11 with (go_at_call 150; refine (HL.out _).mono ?_; rintro e w4 ⟨rfl, hm⟩; have R4 := Lib.hid (HR3.out.mods hm (by simp)); have T4 := Lib.hid (HT3.out.mods hm (by simp)); have M4 := Lib.hid (HM3.out.on hm); have t0 := T4.out.cell 0; have t1 := T4.out.cell 1; have tf0 := T4.out.free 0; have tf1 := T4.out.free 1; simp only [Tgt.cells, List.getElem?_toArray, List.getElem?_cons_zero, List.getElem?_cons_succ, noB] at t0 t1; clear hm)
        obtain ⟨w5, hw5⟩ : ∃ w5, w5 = (w4.setCell ⟨n1, 0, none⟩ (.int .i64 2)).setCell ⟨n1, 1, none⟩ (.string lh) := ⟨_, rfl⟩
        have hr5 : Row w5 n0 37 noT.cells := by rw [hw5]; exact (R4.out.far (p := ⟨n1, 0, none⟩) (by show n0 ≠ n1; omega) _).far (p := ⟨n1, 1, none⟩) (by show n0 ≠ n1; omega) _
        have ht5 : Row w5 n1 37 (⟨2, lh, pa, qa⟩ : Tgt).cells := by rw [hw5]; exact (T4.out.set 0 (.int .i64 2)).set 1 (.string lh)
        have hm5 : Mods [] w w5 := by rw [hw5]; exact (M4.out.setCell (p := ⟨n1, 0, none⟩) (.inr (by show _ ≤ n1; have := HN0.out; omega)) _).setCell (p := ⟨n1, 1, none⟩) (.inr (by show _ ≤ n1; have := HN0.out; omega)) _
        rw [← hw5]
        clear hw5 t0 t1 tf0 tf1 R4 T4 M4 HR3 HT3 HM3
        have HR5 := Lib.hid hr5
        have HT5 := Lib.hid ht5
        have HM5 := Lib.hid hm5
        clear hr5 ht5 hm5
        obtain ⟨c0, c1, c2, c3, f0, f1, f2, f3⟩ := HR5.out.facts
        obtain ⟨d0, d1, d2, d3, -, -, -, -⟩ := HT5.out.facts
        simp only [noT, noB] at c0 c1 c2 c3 d0 d1 d2 d3
        go_wp2
        exact end_T rfl HR5.out rfl rfl rfl HX.out HM5.out HN0.out
    | true =>
      rw [hsl] at HS hrest
      rw [if_pos rfl] at hrest
      have HO := Lib.hid (fun w => origin_a v (by omega) w)
      rw [← hrest] at HO
      unfold TAns at HO
      clear hsl hrest
      rcases orgF_cases (restOf s.data.toList) with hc | ⟨p, q, hc⟩
      · rw [orgF_no hc] at HO
        simp only [Tgt.cells, noT, noB] at HO
        have HX := Lib.hid (hx.trans (orgF_no hc))
        clear hc hx
        go_enter Tryz.func133, Tryz.ntmps133
        go_upto_region 8 with (first
          | (go_at_call 149; refine (HU.out _).mono ?_; rintro e w' ⟨rfl, rfl⟩)
          | (go_at_call 148; refine (HH.out _).mono ?_; rintro e w' ⟨rfl, rfl⟩)
          | (go_at_call 130; (try rw [← HV.out]); refine (HS.out _).mono ?_; rintro e w' ⟨rfl, rfl⟩)
          | (go_at_call 131; (try rw [← HV.out]); refine (HO.out _).mono ?_; rintro e w2 ⟨rfl, hm⟩; have r2 := res_T hm; have R2 := Lib.hid r2; clear hm r2))
        obtain ⟨w3, hw3⟩ : ∃ w3, w3 = w2.alloc (.cells #[.int .i64 0, .string noB, .string noB, .string noB] 37) := ⟨_, rfl⟩
        have hr3 : Row w3 w.heap.size 37 noT.cells := by rw [hw3]; exact R2.out.1.alloc _
        have hm3 : Mods [] w w3 := by rw [hw3]; exact R2.out.2.alloc _
        simp only [noB] at hw3
        rw [← hw3]
        clear hw3 R2
        have R3 := Lib.hid (And.intro hr3 hm3)
        clear hr3 hm3
        obtain ⟨c0, c1, c2, c3, f0, f1, f2, f3⟩ := R3.out.1.facts
        simp only [noT, noB] at c0 c1 c2 c3
        go_wp2
        exact end_T rfl R3.out.1 rfl rfl rfl HX.out R3.out.2 (Nat.le_refl _)
      · rw [orgF_yes hc] at HO
        have hx2 := hx.trans (orgF_yes hc)
        obtain ⟨pa, hpa⟩ : ∃ pa, pa = ofL p := ⟨_, rfl⟩
        obtain ⟨qa, hqa⟩ : ∃ qa, qa = ofL q := ⟨_, rfl⟩
        rw [← hpa, ← hqa] at HO hx2
        simp only [Tgt.cells, noB] at HO
        have HX := Lib.hid hx2
        clear hc hx hx2 hpa hqa
        go_enter Tryz.func133, Tryz.ntmps133
        go_upto_region 8 with (first
          | (go_at_call 149; refine (HU.out _).mono ?_; rintro e w' ⟨rfl, rfl⟩)
          | (go_at_call 148; refine (HH.out _).mono ?_; rintro e w' ⟨rfl, rfl⟩)
          | (go_at_call 130; (try rw [← HV.out]); refine (HS.out _).mono ?_; rintro e w' ⟨rfl, rfl⟩)
          | (go_at_call 131; (try rw [← HV.out]); refine (HO.out _).mono ?_; rintro e w2 ⟨rfl, hm⟩; have r2 := res_T hm; have R2 := Lib.hid r2; clear hm r2))
        obtain ⟨w3, hw3⟩ : ∃ w3, w3 = w2.alloc (.cells #[.int .i64 1, .string noB, .string pa, .string qa] 37) := ⟨_, rfl⟩
        obtain ⟨n1, hn1⟩ : ∃ n1, n1 = w2.heap.size := ⟨_, rfl⟩
        obtain ⟨n0, hn0⟩ : ∃ n0, n0 = w.heap.size := ⟨_, rfl⟩
        have hr3 : Row w3 n0 37 noT.cells := by rw [hw3, hn0]; exact R2.out.1.alloc _
        have ht3 : Row w3 n1 37 (⟨1, noB, pa, qa⟩ : Tgt).cells := by rw [hw3, hn1]; exact Row.new w2 _ _
        have hm3 : Mods [] w w3 := by rw [hw3]; exact R2.out.2.alloc _
        have hne : n0 < n1 := by rw [hn1, hn0]; exact R2.out.1.lt
        have HN0 := Lib.hid (show w.heap.size ≤ n0 by omega)
        rw [← hn1, ← hn0]
        simp only [noB] at hw3 ⊢
        rw [← hw3]
        clear hw3 hn1 hn0 R2
        have HR3 := Lib.hid hr3
        have HT3 := Lib.hid ht3
        have HM3 := Lib.hid hm3
        clear hr3 ht3 hm3
        go_upto_region 11 with (go_at_call 150; refine (HL.out _).mono ?_; rintro e w4 ⟨rfl, hm⟩; have R4 := Lib.hid (HR3.out.mods hm (by simp)); have T4 := Lib.hid (HT3.out.mods hm (by simp)); have M4 := Lib.hid (HM3.out.on hm); have t0 := T4.out.cell 0; have t1 := T4.out.cell 1; have tf0 := T4.out.free 0; have tf1 := T4.out.free 1; simp only [Tgt.cells, List.getElem?_toArray, List.getElem?_cons_zero, List.getElem?_cons_succ, noB] at t0 t1; clear hm)
        obtain ⟨w5, hw5⟩ : ∃ w5, w5 = (w4.setCell ⟨n1, 0, none⟩ (.int .i64 2)).setCell ⟨n1, 1, none⟩ (.string lh) := ⟨_, rfl⟩
        have hr5 : Row w5 n0 37 noT.cells := by rw [hw5]; exact (R4.out.far (p := ⟨n1, 0, none⟩) (by show n0 ≠ n1; omega) _).far (p := ⟨n1, 1, none⟩) (by show n0 ≠ n1; omega) _
        have ht5 : Row w5 n1 37 (⟨2, lh, pa, qa⟩ : Tgt).cells := by rw [hw5]; exact (T4.out.set 0 (.int .i64 2)).set 1 (.string lh)
        have hm5 : Mods [] w w5 := by rw [hw5]; exact (M4.out.setCell (p := ⟨n1, 0, none⟩) (.inr (by show _ ≤ n1; have := HN0.out; omega)) _).setCell (p := ⟨n1, 1, none⟩) (.inr (by show _ ≤ n1; have := HN0.out; omega)) _
        rw [← hw5]
        clear hw5 t0 t1 tf0 tf1 R4 T4 M4 HR3 HT3 HM3
        have HR5 := Lib.hid hr5
        have HT5 := Lib.hid ht5
        have HM5 := Lib.hid hm5
        clear hr5 ht5 hm5
        obtain ⟨c0, c1, c2, c3, f0, f1, f2, f3⟩ := HR5.out.facts
        obtain ⟨d0, d1, d2, d3, -, -, -, -⟩ := HT5.out.facts
        simp only [noT, noB] at c0 c1 c2 c3 d0 d1 d2 d3
        go_wp2
        exact end_T rfl HR5.out rfl rfl rfl HX.out HM5.out HN0.out
end Go.Proofs.YtgkhelbpccehcaaGreatDoor

/- Parse of the code. Conditions: a method and a text of at most a million bytes. -/
namespace Go.Proofs.YtgkhelbpccehcaaGreatDoor
open Go.RowKit
set_option linter.unusedVariables false
set_option linter.unusedSimpArgs false

theorem schemeL_short {l : List UInt8} (h : ¬ 7 ≤ l.length) : schemeL l = false := by unfold schemeL; rw [decide_eq_false h]; rfl
theorem schemeL_long {l : List UInt8} (h : 7 ≤ l.length) : schemeL l = decide (lowL (l.take 7) = httpL) := by unfold schemeL; rw [decide_eq_true h]; rfl
theorem ext_to (s : ByteArray) (k : Nat) : (s.extract 0 k).data.toList = s.data.toList.take k := by
  rw [ByteArray.data_extract, Array.toList_extract]; rfl
set_option maxRecDepth 10000 in
theorem scheme_a (s : ByteArray) (hs : s.size ≤ 1000000) (w : World) : Calls Tryz.prog 132 #[.string s] w fun e w' => e = .returned (.bool (schemeL s.data.toList)) ∧ Mods [] w w' := by
  by_cases h7 : 7 ≤ s.size
  · have hel := ext_to s 7
    have hes := ext_le s 0 7
    obtain ⟨v, hv⟩ : ∃ v, v = s.extract 0 7 := ⟨_, rfl⟩
    rw [← hv] at hel hes
    have HV := Lib.hid hv
    have HS := Lib.hid (fun w => sameKT v ⟨#[104, 116, 116, 112, 58, 47, 47]⟩ (by omega) (by decide) w)
    have HX := Lib.hid (show schemeL s.data.toList = sameL v ⟨#[104, 116, 116, 112, 58, 47, 47]⟩ by
      rw [schemeL_long (show 7 ≤ s.data.toList.length from h7), ← hel]
      unfold sameL
      rw [show lowL (⟨#[104, 116, 116, 112, 58, 47, 47]⟩ : ByteArray).data.toList = httpL by decide +kernel])
    have c7 : (7 : Int) ≤ (s.size : Int) := by omega
    clear hel hv
    go_enter Tryz.func132, Tryz.ntmps132
    go_wp2_with (go_at_call 154; (try rw [← HV.out]); refine (HS.out _).mono ?_; rintro e w1 ⟨rfl, hm⟩; have M1 := Lib.hid hm; clear hm)
    go_ret
    exact ⟨ret_bool HX.out.symm, M1.out⟩
  · have HX := Lib.hid (schemeL_short (l := s.data.toList) h7)
    have c7 : decide ((7 : Int) ≤ (s.size : Int)) = false := by simp; omega
    go_enter Tryz.func132, Tryz.ntmps132
    go_wp2
    go_ret
    exact ⟨ret_bool HX.out.symm, Mods.refl _ _⟩
set_option maxRecDepth 10000 in
set_option maxHeartbeats 1000000 in
theorem tparse_a (m s : ByteArray) (w : World) (hm : m.size ≤ 1000000) (hs : s.size ≤ 900000) : Calls Tryz.prog 108 #[.string m, .string s] w (TAns w (parT m.data.toList s.data.toList)) := by
  have hlen := len_data s
  by_cases h200 : 200 < s.size
  · have HX := Lib.hid (parT_long (m := m.data.toList) (l := s.data.toList) h200)
    clear hlen
    go_enter Tryz.func108, Tryz.ntmps108
    go_wp2
    exact end_N rfl rfl rfl rfl HX.out
  · have h201 : decide (200 < s.size) = false := by simpa using h200
    have hl : ¬ 200 < s.data.toList.length := h200
    by_cases hc : m.data.toList = connectL
    · have hx := parT_con hl hc
      have e1 : (m.toList == [67, 79, 78, 78, 69, 67, 84]) = true := text_eq hc
      have HA := Lib.hid (fun w => authority_a s (by omega) w)
      unfold TAns at HA
      generalize authL s.data.toList = r at HA hx
      obtain ⟨⟨f, h, p, k⟩, n⟩ := r
      simp only [Tgt.cells] at HA
      have HX := Lib.hid hx
      clear hx hl hc hlen
      go_enter Tryz.func108, Tryz.ntmps108
      go_wp2_with (first
        | (go_at_call 129; refine (HA.out _).mono ?_; rintro e w2 ⟨rfl, hm⟩; have r2 := res_T (hm); have R2 := Lib.hid r2; obtain ⟨c0, c1, c2, c3, f0, f1, f2, f3⟩ := r2.1.facts; simp only [noT, noB] at c0 c1 c2 c3; clear hm r2))
      exact end_T rfl R2.out.1 rfl rfl rfl HX.out R2.out.2 (Nat.le_refl _)
    · have e1 : (m.toList == [67, 79, 78, 78, 69, 67, 84]) = false := text_ne hc
      by_cases ho : m.data.toList = optionsL ∧ s.data.toList = [42]
      · have HX := Lib.hid (parT_opt hl hc ho)
        have e2 : (m.toList == [79, 80, 84, 73, 79, 78, 83]) = true := text_eq ho.1
        have e3 : (s.toList == [42]) = true := text_eq ho.2
        clear hl hc ho hlen
        go_enter Tryz.func108, Tryz.ntmps108
        go_wp2
        exact end_N rfl rfl rfl rfl HX.out
      · have hopt : ((m.toList == [79, 80, 84, 73, 79, 78, 83]) = false) ∨ ((m.toList == [79, 80, 84, 73, 79, 78, 83]) = true ∧ (s.toList == [42]) = false) := by
          by_cases h1 : m.data.toList = optionsL
          · exact .inr ⟨text_eq h1, text_ne fun h2 => ho ⟨h1, h2⟩⟩
          · exact .inl (text_ne h1)
        have HS := Lib.hid (fun w => slash_a s w (by omega))
        cases hsl : slashL s.data.toList with
        | true =>
          rw [hsl] at HS
          have hx := parT_org hl hc ho hsl
          have HA := Lib.hid (fun w => origin_a s (by omega) w)
          rcases hopt with e2 | ⟨e2, e3⟩
          · unfold TAns at HA
            generalize orgF 1 noB s.data.toList = r at HA hx
            obtain ⟨⟨f, h, p, k⟩, n⟩ := r
            simp only [Tgt.cells] at HA
            have HX := Lib.hid hx
            clear hx hl hc hlen ho hsl
            go_enter Tryz.func108, Tryz.ntmps108
            go_wp2_with (first
              | (go_at_call 130; refine (HS.out _).mono ?_; rintro e w' ⟨rfl, rfl⟩)
              | (go_at_call 131; refine (HA.out _).mono ?_; rintro e w2 ⟨rfl, hm⟩; have r2 := res_T (hm); have R2 := Lib.hid r2; obtain ⟨c0, c1, c2, c3, f0, f1, f2, f3⟩ := r2.1.facts; simp only [noT, noB] at c0 c1 c2 c3; clear hm r2))
            exact end_T rfl R2.out.1 rfl rfl rfl HX.out R2.out.2 (Nat.le_refl _)
          · unfold TAns at HA
            generalize orgF 1 noB s.data.toList = r at HA hx
            obtain ⟨⟨f, h, p, k⟩, n⟩ := r
            simp only [Tgt.cells] at HA
            have HX := Lib.hid hx
            clear hx hl hc hlen ho hsl
            go_enter Tryz.func108, Tryz.ntmps108
            go_wp2_with (first
              | (go_at_call 130; refine (HS.out _).mono ?_; rintro e w' ⟨rfl, rfl⟩)
              | (go_at_call 131; refine (HA.out _).mono ?_; rintro e w2 ⟨rfl, hm⟩; have r2 := res_T (hm); have R2 := Lib.hid r2; obtain ⟨c0, c1, c2, c3, f0, f1, f2, f3⟩ := r2.1.facts; simp only [noT, noB] at c0 c1 c2 c3; clear hm r2))
            exact end_T rfl R2.out.1 rfl rfl rfl HX.out R2.out.2 (Nat.le_refl _)
        | false =>
          rw [hsl] at HS
          have HC := Lib.hid (fun w => scheme_a s (by omega) w)
          cases hsc : schemeL s.data.toList with
          | true =>
            rw [hsc] at HC
            have hx := parT_abs hl hc ho hsl hsc
            have h7 : 7 ≤ s.size := by
              rcases Nat.lt_or_ge s.size 7 with h | h
              · rw [schemeL_short (by rw [len_data]; omega)] at hsc; cases hsc
              · exact h
            have c7 : (7 : Int) ≤ (s.size : Int) := by omega
            have hvl := ext_from s 7
            have hvs := ext_le s 7 s.size
            obtain ⟨v, hv⟩ : ∃ v, v = s.extract 7 s.size := ⟨_, rfl⟩
            rw [← hv] at hvl hvs
            have HV := Lib.hid hv
            have HA := Lib.hid (fun w => absolute_a v (by omega) w)
            rw [hvl] at HA
            clear hv hvl
            rcases hopt with e2 | ⟨e2, e3⟩
            · unfold TAns at HA
              generalize absL (s.data.toList.drop 7) = r at HA hx
              obtain ⟨⟨f, h, p, k⟩, n⟩ := r
              simp only [Tgt.cells] at HA
              have HX := Lib.hid hx
              clear hx hl hc hlen ho hsl
              go_enter Tryz.func108, Tryz.ntmps108
              go_wp2_with (first
                | (go_at_call 130; refine (HS.out _).mono ?_; rintro e w' ⟨rfl, rfl⟩)
                | (go_at_call 132; refine (HC.out _).mono ?_; rintro e w1 ⟨rfl, hm⟩; have M1 := Lib.hid hm; clear hm)
                | (go_at_call 133; (try rw [← HV.out]); refine (HA.out _).mono ?_; rintro e w2 ⟨rfl, hm⟩; have r2 := res_T (M1.out.on hm); have R2 := Lib.hid r2; obtain ⟨c0, c1, c2, c3, f0, f1, f2, f3⟩ := r2.1.facts; simp only [noT, noB] at c0 c1 c2 c3; clear hm r2))
              exact end_T rfl R2.out.1 rfl rfl rfl HX.out R2.out.2 (Nat.le_refl _)
            · unfold TAns at HA
              generalize absL (s.data.toList.drop 7) = r at HA hx
              obtain ⟨⟨f, h, p, k⟩, n⟩ := r
              simp only [Tgt.cells] at HA
              have HX := Lib.hid hx
              clear hx hl hc hlen ho hsl
              go_enter Tryz.func108, Tryz.ntmps108
              go_wp2_with (first
                | (go_at_call 130; refine (HS.out _).mono ?_; rintro e w' ⟨rfl, rfl⟩)
                | (go_at_call 132; refine (HC.out _).mono ?_; rintro e w1 ⟨rfl, hm⟩; have M1 := Lib.hid hm; clear hm)
                | (go_at_call 133; (try rw [← HV.out]); refine (HA.out _).mono ?_; rintro e w2 ⟨rfl, hm⟩; have r2 := res_T (M1.out.on hm); have R2 := Lib.hid r2; obtain ⟨c0, c1, c2, c3, f0, f1, f2, f3⟩ := r2.1.facts; simp only [noT, noB] at c0 c1 c2 c3; clear hm r2))
              exact end_T rfl R2.out.1 rfl rfl rfl HX.out R2.out.2 (Nat.le_refl _)
          | false =>
            rw [hsc] at HC
            have HX := Lib.hid (parT_no hl hc ho hsl hsc)
            rcases hopt with e2 | ⟨e2, e3⟩
            · clear hl hc hlen ho hsl hsc
              go_enter Tryz.func108, Tryz.ntmps108
              go_wp2_with (first
                | (go_at_call 130; refine (HS.out _).mono ?_; rintro e w' ⟨rfl, rfl⟩)
                | (go_at_call 132; refine (HC.out _).mono ?_; rintro e w1 ⟨rfl, hm⟩; have r2 := res_T hm; have R2 := Lib.hid r2; obtain ⟨c0, c1, c2, c3, f0, f1, f2, f3⟩ := r2.1.facts; simp only [noT, noB] at c0 c1 c2 c3; clear hm r2))
              exact end_T rfl R2.out.1 rfl rfl rfl HX.out R2.out.2 (Nat.le_refl _)
            · clear hl hc hlen ho hsl hsc
              go_enter Tryz.func108, Tryz.ntmps108
              go_wp2_with (first
                | (go_at_call 130; refine (HS.out _).mono ?_; rintro e w' ⟨rfl, rfl⟩)
                | (go_at_call 132; refine (HC.out _).mono ?_; rintro e w1 ⟨rfl, hm⟩; have r2 := res_T hm; have R2 := Lib.hid r2; obtain ⟨c0, c1, c2, c3, f0, f1, f2, f3⟩ := r2.1.facts; simp only [noT, noB] at c0 c1 c2 c3; clear hm r2))
              exact end_T rfl R2.out.1 rfl rfl rfl HX.out R2.out.2 (Nat.le_refl _)
end Go.Proofs.YtgkhelbpccehcaaGreatDoor

/- Parse of the document: a path and a query. Conditions: a text of at most a million bytes. -/
namespace Go.Proofs.YtgkhelbpccehcaaGreatDoor
open Go.RowKit
set_option linter.unusedVariables false
set_option linter.unusedSimpArgs false

theorem lowerR (s : ByteArray) (hs : s.size ≤ 1000000) (w : World) : Calls Tryz.prog 99 #[.string s] w fun e w' => e = .returned (.string (ofL (lowL s.data.toList))) ∧ Mods [] w w' :=
  (lower_r s w (by omega)).mono fun e w' ⟨h1, h2⟩ => ⟨h1, .of_below h2⟩
theorem inR (m : ByteArray) (c : UInt8) (hm : m.size ≤ 1000000) (w : World) : Calls Tryz.prog 98 #[.int .u8 (c.toNat : Int), .string m] w fun e w' => e = .returned (.bool (inL m.data.toList c)) ∧ w = w' :=
  in_r c m w (by unfold maxLen; omega)
def amarks : List UInt8 := [45, 46, 95, 126, 33, 36, 38, 39, 40, 41, 42, 43, 44, 59, 61, 58, 64, 47, 37, 63]
theorem allow_r0 (c : UInt8) : allowB c = (alB c || inL amarks c) := by
  have := by_byte (fun c => allowB c == (alB c || inL amarks c)) (by decide +kernel) c
  simpa using this
set_option maxRecDepth 10000 in
theorem allowed_r (c : UInt8) (w : World) : Calls Tryz.prog 119 #[.int .u8 (c.toNat : Int)] w fun e w' => e = .returned (.bool (allowB c)) ∧ w = w' := by
  cases ha : alB c with
  | true =>
    have HX := Lib.hid (show allowB c = true by rw [allow_r0, ha]; rfl)
    have HA := Lib.hid (fun w => ha ▸ alnum_r c w)
    clear ha
    go_enter Tryz.func119, Tryz.ntmps119
    go_wp2_with (go_at_call 118; refine (HA.out _).mono ?_; rintro e w' ⟨rfl, rfl⟩)
    go_ret
    exact ⟨ret_bool HX.out.symm, rfl⟩
  | false =>
    have HX := Lib.hid (show allowB c = inL amarks c by rw [allow_r0, ha]; rfl)
    have HA := Lib.hid (fun w => ha ▸ alnum_r c w)
    have HI := Lib.hid (fun w => inR ⟨amarks.toArray⟩ c (by decide) w)
    clear ha
    go_enter Tryz.func119, Tryz.ntmps119
    go_wp2_with (first
      | (go_at_call 118; refine (HA.out _).mono ?_; rintro e w' ⟨rfl, rfl⟩)
      | (go_at_call 98; refine (HI.out _).mono ?_; rintro e w' ⟨rfl, rfl⟩))
    go_ret
    exact ⟨ret_bool HX.out.symm, rfl⟩

/-- What the document's origin answers. -/
def orgV (l : List UInt8) : ByteArray × ByteArray × Bool :=
  if l.all allowB = true then (match decL (upL (isC 63) l) with | some d => ((clnA d).1, ofL (l.drop ((upL (isC 63) l).length + 1)), (clnA d).2) | none => (noB, noB, false)) else (noB, noB, false)
theorem orgV_bad {l : List UInt8} (h : l.all allowB = false) : orgV l = (noB, noB, false) := by unfold orgV; rw [if_neg (by rw [h]; simp)]
theorem orgV_dec {l : List UInt8} (h : l.all allowB = true) (h2 : decL (upL (isC 63) l) = none) : orgV l = (noB, noB, false) := by unfold orgV; rw [if_pos h, h2]
theorem orgV_yes {l d : List UInt8} (h : l.all allowB = true) (h2 : decL (upL (isC 63) l) = some d) : orgV l = ((clnA d).1, ofL (l.drop ((upL (isC 63) l).length + 1)), (clnA d).2) := by unfold orgV; rw [if_pos h, h2]
theorem orgV_no {l : List UInt8} (h : (orgV l).2.2 = false) : orgL l = none := by
  cases ha : l.all allowB with
  | false => exact orgL_bad ha
  | true =>
    cases hd : decL (upL (isC 63) l) with
    | none => exact orgL_dec ha hd
    | some d =>
      rw [orgV_yes ha hd] at h
      cases hc : clnL d with
      | none => exact orgL_cln ha hd hc
      | some p => rw [clnA_yes hc] at h; cases h
theorem orgV_some {l : List UInt8} (h : (orgV l).2.2 = true) : orgL l = some ((orgV l).1.data.toList, (orgV l).2.1.data.toList) := by
  cases ha : l.all allowB with
  | false => rw [orgV_bad ha] at h; cases h
  | true =>
    cases hd : decL (upL (isC 63) l) with
    | none => rw [orgV_dec ha hd] at h; cases h
    | some d =>
      have e := orgV_yes ha hd
      rw [e] at h
      cases hc : clnL d with
      | none => rw [clnA_no hc] at h; cases h
      | some p => rw [e, clnA_yes hc, orgL_yes ha hd hc]; simp only [ofL_list]
theorem orgV_F {f : Int} {h : ByteArray} {l : List UInt8} (e : (orgV l).2.2 = true) : orgF f h l = (⟨f, h, (orgV l).1, (orgV l).2.1⟩, 0) := by
  rw [orgF_yes (orgV_some e), ofL_data, ofL_data]
def OAns (w : World) (l : List UInt8) (e : Ending) (w' : World) : Prop := e = .returned (.tuple #[.string (orgV l).1, .string (orgV l).2.1, .bool (orgV l).2.2]) ∧ Mods [] w w'
theorem OAns.mk' {w w' : World} {l : List UInt8} {a b : ByteArray} {c : Bool} (h : orgV l = (a, b, c)) (hm : Mods [] w w') : OAns w l (.returned (.tuple #[.string a, .string b, .bool c])) w' := by
  unfold OAns; rw [h]; exact ⟨rfl, hm⟩

set_option maxRecDepth 10000 in
set_option maxHeartbeats 1000000 in
theorem origin_r (s : ByteArray) (hs : s.size ≤ 1000000) (w : World) : Calls Tryz.prog 100 #[.string s] w (OAns w s.data.toList) := by
  have HLN := Lib.hid (len_data s)
  go_enter Tryz.func100, Tryz.ntmps100
  go_wp2
  go_loop [7] (fun i => ∃ (k : Nat), k ≤ s.size ∧ i = .int .i64 k ∧ (s.data.toList.take k).all allowB = true) (fun i => s.size - (intOf i).toNat)
  case atStart => exact ⟨0, Nat.zero_le _, rfl, rfl⟩
  case round =>
    obtain ⟨k, hk, rfl, hall⟩ := hrel
    have HA := Lib.hid hall
    clear hall
    by_cases hlt : k < s.size
    · cases hp : allowB s[k] with
      | true =>
        have HN := Lib.hid (take_all hlt HA.out hp)
        have HC := Lib.hid (fun w => hp ▸ allowed_r s[k] w)
        clear hp
        go_wp2_with (go_at_call 119; refine (HC.out _).mono ?_; rintro e w' ⟨rfl, rfl⟩)
        go_round
        case rel => exact ⟨k + 1, by omega, by go_num, HN.out⟩
        case measure => simp [intOf]; omega
      | false =>
        have HX := Lib.hid (orgV_bad (all_bad hlt hp))
        have HC := Lib.hid (fun w => hp ▸ allowed_r s[k] w)
        clear hp
        go_wp2_with (go_at_call 119; refine (HC.out _).mono ?_; rintro e w' ⟨rfl, rfl⟩)
        go_ret3
        exact OAns.mk' HX.out (Mods.refl _ _)
    · have hal := take_end hlt HA.out
      have HAL := Lib.hid hal
      clear hal HA
      go_wp2
      go_loop [5, 6, 8] (fun pa qa i => ∃ (j : Nat), j ≤ s.size ∧ i = .int .i64 j ∧ pa = .string s ∧ qa = .string ⟨#[]⟩ ∧ (s.data.toList.take j).all (fun c => !isC 63 c) = true) (fun _ _ i => s.size - (intOf i).toNat)
      case atStart => exact ⟨0, Nat.zero_le _, rfl, rfl, rfl, rfl⟩
      case round =>
        obtain ⟨j, hj, rfl, rfl, rfl, hno⟩ := hrel
        have HN := Lib.hid hno
        clear hno
        by_cases hlt2 : j < s.size
        · by_cases hc : s[j] = 63
          · have hup := upL_first (p := isC 63) hlt2 HN.out (by rw [hc]; rfl)
            have hul : (s.extract 0 j).data.toList = upL (isC 63) s.data.toList := by rw [ext_to, upL_take (isC 63) s.data.toList, hup]
            have hvl := ext_from s (j + 1)
            have hus := ext_le s 0 j
            have e1 : ((s[j].toNat : Int) == 63) = true := by rw [hc]; rfl
            have c1 : (0 : Int) ≤ (j : Int) := by omega
            have c2 : (j : Int) ≤ (s.size : Int) := by omega
            have c3 : (0 : Int) ≤ (j : Int) + 1 := by omega
            have c4 : (j : Int) + 1 ≤ (s.size : Int) := by omega
            obtain ⟨u, hu⟩ : ∃ u, u = s.extract 0 j := ⟨_, rfl⟩
            obtain ⟨v, hv⟩ : ∃ v, v = s.extract (j + 1) s.size := ⟨_, rfl⟩
            rw [← hu] at hul hus
            rw [← hv] at hvl
            have HU := Lib.hid hu
            have HV := Lib.hid hv
            have HVL := Lib.hid (show v = ofL (s.data.toList.drop ((upL (isC 63) s.data.toList).length + 1)) by rw [hup, ← hvl, ofL_data])
            have HUL := Lib.hid hul
            clear hc hup hul hvl hu hv
            have HD := Lib.hid (fun w => decode_r u (by omega) w)
            cases hd : decL u.data.toList with
            | none =>
              have HX := Lib.hid (orgV_dec HAL.out (by rw [← HUL.out]; exact hd))
              rw [decA_no hd] at HD
              clear hd
              go_wp2
              go_quiet (fail)
              rw [← HU.out, ← HV.out]
              go_wp2_with (go_at_call 120; refine (HD.out _).mono ?_; rintro e w1 ⟨rfl, hm⟩; have M1 := Lib.hid hm; clear hm)
              go_ret3
              exact OAns.mk' HX.out (((Mods.refl _ _).drewN _).on M1.out)
            | some d =>
              have hds : d.length ≤ 1000000 := by have := decL_len _ _ hd; rw [len_data] at this; omega
              have hx := orgV_yes HAL.out (by rw [← HUL.out]; exact hd)
              rw [← HVL.out] at hx
              rw [decA_yes hd] at HD
              have HCL := Lib.hid (fun w => clean_r (ofL d) (by rw [ofL_size]; exact hds) w)
              rw [ofL_list] at HCL
              generalize clnA d = cr at HCL hx
              obtain ⟨ca, cb⟩ := cr
              have HX := Lib.hid hx
              clear hd hds hx
              go_wp2
              go_quiet (fail)
              rw [← HU.out, ← HV.out]
              go_wp2_with (first
                | (go_at_call 120; refine (HD.out _).mono ?_; rintro e w1 ⟨rfl, hm⟩; have M1 := Lib.hid hm; clear hm)
                | (go_at_call 121; refine (HCL.out _).mono ?_; rintro e w2 ⟨rfl, hm⟩; have M2 := Lib.hid (M1.out.on hm); clear hm))
              go_ret3
              exact OAns.mk' HX.out (((Mods.refl _ _).drewN _).on M2.out)
          · have HN2 := Lib.hid (take_all hlt2 HN.out (show (!isC 63 s[j]) = true by unfold isC; simp [hc]))
            have e1 : ((s[j].toNat : Int) == 63) = false := by have := (b_no 63 hc).1; simpa using this
            clear hc
            go_wp2
            go_round
            case rel => exact ⟨j + 1, by omega, by go_num, rfl, rfl, HN2.out⟩
            case measure => simp [intOf]; omega
        · have hsn := take_end hlt2 HN.out
          have hup : upL (isC 63) s.data.toList = s.data.toList := upL_none hsn
          have HUL := Lib.hid hup.symm
          have HVL := Lib.hid (show (⟨#[]⟩ : ByteArray) = ofL (s.data.toList.drop ((upL (isC 63) s.data.toList).length + 1)) by rw [hup, List.drop_of_length_le (by omega)]; rfl)
          clear hsn hup
          have HD := Lib.hid (fun w => decode_r s (by omega) w)
          cases hd : decL s.data.toList with
          | none =>
            have HX := Lib.hid (orgV_dec HAL.out (by rw [← HUL.out]; exact hd))
            rw [decA_no hd] at HD
            clear hd
            go_wp2_with (go_at_call 120; refine (HD.out _).mono ?_; rintro e w1 ⟨rfl, hm⟩; have M1 := Lib.hid hm; clear hm)
            go_ret3
            exact OAns.mk' HX.out M1.out
          | some d =>
            have hds : d.length ≤ 1000000 := by have := decL_len _ _ hd; rw [len_data] at this; omega
            have hx := orgV_yes HAL.out (by rw [← HUL.out]; exact hd)
            rw [← HVL.out] at hx
            rw [decA_yes hd] at HD
            have HCL := Lib.hid (fun w => clean_r (ofL d) (by rw [ofL_size]; exact hds) w)
            rw [ofL_list] at HCL
            generalize clnA d = cr at HCL hx
            obtain ⟨ca, cb⟩ := cr
            have HX := Lib.hid hx
            clear hd hds hx
            go_wp2_with (first
              | (go_at_call 120; refine (HD.out _).mono ?_; rintro e w1 ⟨rfl, hm⟩; have M1 := Lib.hid hm; clear hm)
              | (go_at_call 121; refine (HCL.out _).mono ?_; rintro e w2 ⟨rfl, hm⟩; have M2 := Lib.hid (M1.out.on hm); clear hm))
            go_ret3
            exact OAns.mk' HX.out M2.out
end Go.Proofs.YtgkhelbpccehcaaGreatDoor

/- Parse of the document. Conditions: a method and a text of at most a million bytes. -/
namespace Go.Proofs.YtgkhelbpccehcaaGreatDoor
open Go.RowKit
set_option linter.unusedVariables false
set_option linter.unusedSimpArgs false

theorem sameL_iffT (a b : ByteArray) : sameL a b = ((ofL (lowL a.data.toList)).toList == (ofL (lowL b.data.toList)).toList) := by
  unfold sameL
  rw [ByteArray.toList_eq, ByteArray.toList_eq, ofL_list, ofL_list, Bool.eq_iff_iff, decide_eq_true_iff, beq_iff_eq]
theorem sameR (a b : ByteArray) (ha : a.size ≤ 1000000) (hb : b.size ≤ 1000000) (w : World) : Calls Tryz.prog 79 #[.string a, .string b] w fun e w' => e = .returned (.bool (sameL a b)) ∧ Mods [] w w' := by
  rw [sameL_iffT]
  have HA := Lib.hid (fun w => lowerR a ha w)
  have HB := Lib.hid (fun w => lowerR b hb w)
  obtain ⟨x, hx⟩ : ∃ x : ByteArray, x = ofL (lowL a.data.toList) := ⟨_, rfl⟩
  obtain ⟨y, hy⟩ : ∃ y : ByteArray, y = ofL (lowL b.data.toList) := ⟨_, rfl⟩
  rw [← hx] at HA ⊢
  rw [← hy] at HB ⊢
  clear hx hy
  go_enter Tryz.func79, Tryz.ntmps79
  go_wp2_with fail
  refine (HA.out _).mono ?_
  rintro e w1 ⟨rfl, hm⟩
  have M1 := Lib.hid hm
  clear hm
  go_wp2_with fail
  refine (HB.out _).mono ?_
  rintro e w2 ⟨rfl, hm⟩
  have M2 := Lib.hid (M1.out.on hm)
  clear hm
  go_wp2
  go_ret
  exact ⟨rfl, M2.out⟩
theorem end_first {s : ByteArray} {k : Nat} (hk : k < s.size) (h0 : (s.data.toList.take k).all (fun c => !endB c) = true) (h : endB s[k] = true) : hostOf s.data.toList = s.data.toList.take k := by
  unfold hostOf
  rw [upL_take, upL_first hk h0 h]
theorem end_none {s : ByteArray} (h0 : s.data.toList.all (fun c => !endB c) = true) : hostOf s.data.toList = s.data.toList := upL_none h0

set_option maxRecDepth 10000 in
set_option maxHeartbeats 1000000 in
theorem absolute_r (s : ByteArray) (hs : s.size ≤ 900000) (w : World) : Calls Tryz.prog 101 #[.string s] w (TAns w (absL s.data.toList)) := by
  have HLN := Lib.hid (len_data s)
  go_enter Tryz.func101, Tryz.ntmps101
  go_wp2
  obtain ⟨w0, hw0⟩ : ∃ w0, w0 = w.alloc (.cells #[.int .i64 0, .string ⟨#[]⟩, .string ⟨#[]⟩, .string ⟨#[]⟩] 37) := ⟨_, rfl⟩
  obtain ⟨n0, hn0⟩ : ∃ n0, n0 = w.heap.size := ⟨_, rfl⟩
  have HR0 := Lib.hid (show Row w0 n0 37 noT.cells by rw [hw0, hn0]; exact Row.new w _ _)
  have HM0 := Lib.hid (show Mods [] w w0 by rw [hw0]; exact (Mods.refl [] w).alloc _)
  have HN0 := Lib.hid (show w.heap.size ≤ n0 by omega)
  rw [← hw0, ← hn0]
  clear hw0 hn0
  go_loop [4] (fun i => ∃ (k : Nat), k ≤ s.size ∧ i = .int .i64 k ∧ (s.data.toList.take k).all (fun c => !endB c) = true) (fun i => s.size - (intOf i).toNat)
  case atStart => exact ⟨0, Nat.zero_le _, rfl, rfl⟩
  case round =>
    obtain ⟨k, hk, rfl, hall⟩ := hrel
    have HA := Lib.hid hall
    clear hall
    have hul := ext_to s k
    have hus := ext_le s 0 k
    have hvl := ext_from s k
    have hvs : (s.extract k s.size).size = s.size - k := by rw [ByteArray.size_extract]; omega
    have c1 : (0 : Int) ≤ (k : Int) := by omega
    have c2 : (k : Int) ≤ (s.size : Int) := by omega
    have hvz : (s.extract k s.size).size ≤ 900000 := by omega
    obtain ⟨u, hu⟩ : ∃ u, u = s.extract 0 k := ⟨_, rfl⟩
    obtain ⟨v, hv⟩ : ∃ v, v = s.extract k s.size := ⟨_, rfl⟩
    rw [← hu] at hul hus
    rw [← hv] at hvl hvs hvz
    have HU := Lib.hid hu
    have HV := Lib.hid hv
    clear hu hv
    have HH := Lib.hid (fun w => host_r u w (by omega))
    have HL := Lib.hid (fun w => lowerR u (by omega) w)
    by_cases hlt : k < s.size
    · have hp : 0 < v.size := by omega
      have hv0 := first_of hvl hp hlt
      obtain ⟨e3, e4⟩ := emp_no hp
      by_cases h47 : s[k] = 47
      · have hho := end_first hlt HA.out (show endB s[k] = true by rw [h47]; rfl)
        have e1 : ((s[k].toNat : Int) != 47) = false := by rw [h47]; rfl
        have e5 : ((v[0].toNat : Int) != 47) = false := by rw [hv0, h47]; rfl
        have hrest : restOf s.data.toList = v.data.toList := by
          unfold restOf
          rw [hho, take_len s hk, ← hvl, if_pos]
          have := drop_cons v 0 hp
          rw [List.drop_zero] at this
          rw [this, hv0, h47]; rfl
        clear h47 hv0
        rw [hul, ← hho] at HH HL
        have hjs : v.size ≤ 1000000 := by omega
        have HO := Lib.hid (fun w => origin_r v hjs w)
        unfold OAns at HO
        rw [← hrest] at HO
        cases hh : hostL (hostOf s.data.toList) with
        | false =>
          rw [hh] at HH
          have HX := Lib.hid (absL_no hh)
          clear hh hrest hho hul hus hvl hvs
          obtain ⟨c0, c1, c2, c3, f0, f1, f2, f3⟩ := HR0.out.facts
          simp only [noT, noB] at c0 c1 c2 c3
          go_wp2_with (go_at_call 97; (try rw [← HU.out]); refine (HH.out _).mono ?_; rintro e w' ⟨rfl, rfl⟩)
          exact end_T rfl HR0.out rfl rfl rfl HX.out HM0.out HN0.out
        | true =>
          rw [hh] at HH
          have hx := absL_yes hh
          generalize hov : orgV (restOf s.data.toList) = ov at HO
          obtain ⟨pa, qa, ok⟩ := ov
          obtain ⟨lh, hlh⟩ : ∃ lh, lh = ofL (lowL (hostOf s.data.toList)) := ⟨_, rfl⟩
          rw [← hlh] at hx HL
          cases ok with
          | false =>
            have HX := Lib.hid (hx.trans (orgF_no (orgV_no (by rw [hov]))))
            clear hh hrest hho hul hus hvl hvs hov hlh hx
            go_upto_region 7 with (go_at_call 97; (try rw [← HU.out]); refine (HH.out _).mono ?_; rintro e w' ⟨rfl, rfl⟩)
            rw [← HV.out]
            go_wp2_with (go_at_call 100; (try rw [← HV.out]); refine (HO.out _).mono ?_; rintro e w1 ⟨rfl, hm⟩; have R1 := Lib.hid (HR0.out.mods hm (by simp)); have M1 := Lib.hid (HM0.out.on hm); obtain ⟨c0, c1, c2, c3, f0, f1, f2, f3⟩ := R1.out.facts; simp only [noT, noB] at c0 c1 c2 c3; clear hm)
            exact end_T rfl R1.out rfl rfl rfl HX.out M1.out HN0.out
          | true =>
            have HX := Lib.hid (hx.trans (orgV_F (f := 2) (h := lh) (by rw [hov])))
            rw [hov] at HX
            clear hh hrest hho hul hus hvl hvs hov hlh hx
            go_upto_region 7 with (go_at_call 97; (try rw [← HU.out]); refine (HH.out _).mono ?_; rintro e w' ⟨rfl, rfl⟩)
            rw [← HV.out]
            go_wp2_with (first
              | (go_at_call 100; (try rw [← HV.out]); refine (HO.out _).mono ?_; rintro e w1 ⟨rfl, hm⟩; have R1 := Lib.hid (HR0.out.mods hm (by simp)); have M1 := Lib.hid (HM0.out.on hm); clear hm)
              | (go_at_call 99; (try rw [← HU.out]); refine (HL.out _).mono ?_; rintro e w2 ⟨rfl, hm⟩; have R2 := Lib.hid (R1.out.mods hm (by simp)); have M2 := Lib.hid (M1.out.on hm); obtain ⟨c0, c1, c2, c3, f0, f1, f2, f3⟩ := R2.out.facts; simp only [noT, noB] at c0 c1 c2 c3; clear hm))
            exact end_T rfl R2.out rfl rfl rfl HX.out M2.out HN0.out
      · have e1 : ((s[k].toNat : Int) != 47) = true := by have := (b_no 47 h47).2; simpa using this
        by_cases h63 : s[k] = 63
        · have hho := end_first hlt HA.out (show endB s[k] = true by rw [h63]; rfl)
          have e2 : ((s[k].toNat : Int) != 63) = false := by rw [h63]; rfl
          have e5 : ((v[0].toNat : Int) != 47) = true := by rw [hv0, h63]; rfl
          have hrest : restOf s.data.toList = 47 :: v.data.toList := by
            unfold restOf
            rw [hho, take_len s hk, ← hvl, if_neg]
            have := drop_cons v 0 hp
            rw [List.drop_zero] at this
            rw [this, hv0, h63]; simp [slashL]
          clear h63 h47 hv0
          rw [hul, ← hho] at HH HL
          have hjl : (⟨#[47]⟩ ++ v : ByteArray).data.toList = restOf s.data.toList := by rw [ByteArray.data_append, Array.toList_append, hrest]; rfl
          have hjs : (⟨#[47]⟩ ++ v : ByteArray).size ≤ 1000000 := by rw [ByteArray.size_append]; show 1 + _ ≤ _; omega
          obtain ⟨jt, hjt⟩ : ∃ jt, jt = (⟨#[47]⟩ ++ v : ByteArray) := ⟨_, rfl⟩
          rw [← hjt] at hjl hjs
          have HO := Lib.hid (fun w => origin_r jt hjs w)
          unfold OAns at HO
          rw [hjl] at HO
          have HJT := Lib.hid hjt
          clear hjl hjt
          cases hh : hostL (hostOf s.data.toList) with
          | false =>
            rw [hh] at HH
            have HX := Lib.hid (absL_no hh)
            clear hh hrest hho hul hus hvl hvs
            obtain ⟨c0, c1, c2, c3, f0, f1, f2, f3⟩ := HR0.out.facts
            simp only [noT, noB] at c0 c1 c2 c3
            go_wp2_with (go_at_call 97; (try rw [← HU.out]); refine (HH.out _).mono ?_; rintro e w' ⟨rfl, rfl⟩)
            exact end_T rfl HR0.out rfl rfl rfl HX.out HM0.out HN0.out
          | true =>
            rw [hh] at HH
            have hx := absL_yes hh
            generalize hov : orgV (restOf s.data.toList) = ov at HO
            obtain ⟨pa, qa, ok⟩ := ov
            obtain ⟨lh, hlh⟩ : ∃ lh, lh = ofL (lowL (hostOf s.data.toList)) := ⟨_, rfl⟩
            rw [← hlh] at hx HL
            cases ok with
            | false =>
              have HX := Lib.hid (hx.trans (orgF_no (orgV_no (by rw [hov]))))
              clear hh hrest hho hul hus hvl hvs hov hlh hx
              go_upto_region 7 with (go_at_call 97; (try rw [← HU.out]); refine (HH.out _).mono ?_; rintro e w' ⟨rfl, rfl⟩)
              rw [← HV.out]
              go_wp2_with (go_at_call 100; (try rw [← HV.out]); (try rw [← HJT.out]); refine (HO.out _).mono ?_; rintro e w1 ⟨rfl, hm⟩; have R1 := Lib.hid (HR0.out.mods hm (by simp)); have M1 := Lib.hid (HM0.out.on hm); obtain ⟨c0, c1, c2, c3, f0, f1, f2, f3⟩ := R1.out.facts; simp only [noT, noB] at c0 c1 c2 c3; clear hm)
              exact end_T rfl R1.out rfl rfl rfl HX.out M1.out HN0.out
            | true =>
              have HX := Lib.hid (hx.trans (orgV_F (f := 2) (h := lh) (by rw [hov])))
              rw [hov] at HX
              clear hh hrest hho hul hus hvl hvs hov hlh hx
              go_upto_region 7 with (go_at_call 97; (try rw [← HU.out]); refine (HH.out _).mono ?_; rintro e w' ⟨rfl, rfl⟩)
              rw [← HV.out]
              go_wp2_with (first
                | (go_at_call 100; (try rw [← HV.out]); (try rw [← HJT.out]); refine (HO.out _).mono ?_; rintro e w1 ⟨rfl, hm⟩; have R1 := Lib.hid (HR0.out.mods hm (by simp)); have M1 := Lib.hid (HM0.out.on hm); clear hm)
                | (go_at_call 99; (try rw [← HU.out]); refine (HL.out _).mono ?_; rintro e w2 ⟨rfl, hm⟩; have R2 := Lib.hid (R1.out.mods hm (by simp)); have M2 := Lib.hid (M1.out.on hm); obtain ⟨c0, c1, c2, c3, f0, f1, f2, f3⟩ := R2.out.facts; simp only [noT, noB] at c0 c1 c2 c3; clear hm))
              exact end_T rfl R2.out rfl rfl rfl HX.out M2.out HN0.out
        · have e2 : ((s[k].toNat : Int) != 63) = true := by have := (b_no 63 h63).2; simpa using this
          have HN := Lib.hid (take_all hlt HA.out (show (!endB s[k]) = true by unfold endB isC; simp [h47, h63]))
          clear h63 h47 hv0 hul hus hvl hvs
          go_wp2
          go_round
          case rel => exact ⟨k + 1, by omega, by go_num, HN.out⟩
          case measure => simp [intOf]; omega
    · obtain rfl : k = s.size := by omega
      have hus2 : s = u := (HU.out.trans (ext_all s)).symm
      subst hus2
      have hho0 := end_none (take_end hlt HA.out)
      have hho : hostOf s.data.toList = s.data.toList.take s.size := by rw [hho0, ← HLN.out, List.take_length]
      have hv0 : v.size = 0 := by omega
      have e3 := emp_yes hv0
      have hrest : restOf s.data.toList = 47 :: v.data.toList := by
        unfold restOf
        rw [hho, take_len s hk, ← hvl, if_neg]
        rw [nil_data hv0]; simp [slashL]
      replace HV := Lib.hid (show v = ByteArray.empty from bytes_ext (nil_data hv0))
      clear hho0 hv0
      rw [hul, ← hho] at HH HL
      have hjl : (⟨#[47]⟩ ++ v : ByteArray).data.toList = restOf s.data.toList := by rw [ByteArray.data_append, Array.toList_append, hrest]; rfl
      have hjs : (⟨#[47]⟩ ++ v : ByteArray).size ≤ 1000000 := by rw [ByteArray.size_append]; show 1 + _ ≤ _; omega
      obtain ⟨jt, hjt⟩ : ∃ jt, jt = (⟨#[47]⟩ ++ v : ByteArray) := ⟨_, rfl⟩
      rw [← hjt] at hjl hjs
      have HO := Lib.hid (fun w => origin_r jt hjs w)
      unfold OAns at HO
      rw [hjl] at HO
      have HJT := Lib.hid hjt
      clear hjl hjt
      cases hh : hostL (hostOf s.data.toList) with
      | false =>
        rw [hh] at HH
        have HX := Lib.hid (absL_no hh)
        clear hh hrest hho hul hus hvl hvs
        obtain ⟨c0, c1, c2, c3, f0, f1, f2, f3⟩ := HR0.out.facts
        simp only [noT, noB] at c0 c1 c2 c3
        go_wp2_with (go_at_call 97; (try rw [← HU.out]); refine (HH.out _).mono ?_; rintro e w' ⟨rfl, rfl⟩)
        exact end_T rfl HR0.out rfl rfl rfl HX.out HM0.out HN0.out
      | true =>
        rw [hh] at HH
        have hx := absL_yes hh
        generalize hov : orgV (restOf s.data.toList) = ov at HO
        obtain ⟨pa, qa, ok⟩ := ov
        obtain ⟨lh, hlh⟩ : ∃ lh, lh = ofL (lowL (hostOf s.data.toList)) := ⟨_, rfl⟩
        rw [← hlh] at hx HL
        cases ok with
        | false =>
          have HX := Lib.hid (hx.trans (orgF_no (orgV_no (by rw [hov]))))
          clear hh hrest hho hul hus hvl hvs hov hlh hx
          go_upto_region 7 with (go_at_call 97; (try rw [← HU.out]); refine (HH.out _).mono ?_; rintro e w' ⟨rfl, rfl⟩)
          rw [← HV.out]
          go_wp2_with (go_at_call 100; (try rw [← HV.out]); (try rw [← HJT.out]); refine (HO.out _).mono ?_; rintro e w1 ⟨rfl, hm⟩; have R1 := Lib.hid (HR0.out.mods hm (by simp)); have M1 := Lib.hid (HM0.out.on hm); obtain ⟨c0, c1, c2, c3, f0, f1, f2, f3⟩ := R1.out.facts; simp only [noT, noB] at c0 c1 c2 c3; clear hm)
          exact end_T rfl R1.out rfl rfl rfl HX.out M1.out HN0.out
        | true =>
          have HX := Lib.hid (hx.trans (orgV_F (f := 2) (h := lh) (by rw [hov])))
          rw [hov] at HX
          clear hh hrest hho hul hus hvl hvs hov hlh hx
          go_upto_region 7 with (go_at_call 97; (try rw [← HU.out]); refine (HH.out _).mono ?_; rintro e w' ⟨rfl, rfl⟩)
          rw [← HV.out]
          go_wp2_with (first
            | (go_at_call 100; (try rw [← HV.out]); (try rw [← HJT.out]); refine (HO.out _).mono ?_; rintro e w1 ⟨rfl, hm⟩; have R1 := Lib.hid (HR0.out.mods hm (by simp)); have M1 := Lib.hid (HM0.out.on hm); clear hm)
            | (go_at_call 99; (try rw [← HU.out]); refine (HL.out _).mono ?_; rintro e w2 ⟨rfl, hm⟩; have R2 := Lib.hid (R1.out.mods hm (by simp)); have M2 := Lib.hid (M1.out.on hm); obtain ⟨c0, c1, c2, c3, f0, f1, f2, f3⟩ := R2.out.facts; simp only [noT, noB] at c0 c1 c2 c3; clear hm))
          exact end_T rfl R2.out rfl rfl rfl HX.out M2.out HN0.out


theorem slash_zero {s : ByteArray} (h : s.size = 0) : slashL s.data.toList = false := by rw [nil_data h]; rfl
theorem slash_at {s : ByteArray} (h : 0 < s.size) : slashL s.data.toList = decide (s[0] = 47) := by
  have hd := drop_cons s 0 h
  rw [List.drop_zero] at hd
  by_cases hc : s[0] = 47
  · rw [hd, decide_eq_true hc, hc]; rfl
  · rw [hd, decide_eq_false hc, slash_cons hc]

set_option maxRecDepth 10000 in
set_option maxHeartbeats 1000000 in
theorem tparse_r (m s : ByteArray) (w : World) (hm : m.size ≤ 1000000) (hs : s.size ≤ 900000) : Calls Tryz.prog 72 #[.string m, .string s] w (TAns w (parT m.data.toList s.data.toList)) := by
  have hlen := len_data s
  by_cases h200 : 200 < s.size
  · have HX := Lib.hid (parT_long (m := m.data.toList) (l := s.data.toList) h200)
    clear hlen
    go_enter Tryz.func72, Tryz.ntmps72
    go_wp2
    exact end_N rfl rfl rfl rfl HX.out
  · have h201 : decide (200 < s.size) = false := by simpa using h200
    have hl : ¬ 200 < s.data.toList.length := h200
    by_cases hc : m.data.toList = connectL
    · have hx := parT_con hl hc
      have e1 : (m.toList == [67, 79, 78, 78, 69, 67, 84]) = true := text_eq hc
      have HH := Lib.hid (fun w => host_r s w (by omega))
      cases hh : hostL s.data.toList with
      | false =>
        rw [hh] at HH
        have HX := Lib.hid (hx.trans (authL_no (.inl hh)))
        clear hh hx hc hl hlen
        go_enter Tryz.func72, Tryz.ntmps72
        go_wp2_with (go_at_call 97; refine (HH.out _).mono ?_; rintro e w' ⟨rfl, rfl⟩)
        exact end_N rfl rfl rfl rfl HX.out
      | true =>
        rw [hh] at HH
        have HI := Lib.hid (fun w => inR s 58 (by omega) w)
        cases hi : inL s.data.toList 58 with
        | false =>
          rw [hi] at HI
          have HX := Lib.hid (hx.trans (authL_no (.inr hi)))
          clear hh hx hc hl hlen hi
          go_enter Tryz.func72, Tryz.ntmps72
          go_wp2_with (first
            | (go_at_call 97; refine (HH.out _).mono ?_; rintro e w' ⟨rfl, rfl⟩)
            | (go_at_call 98; refine (HI.out _).mono ?_; rintro e w' ⟨rfl, rfl⟩))
          exact end_N rfl rfl rfl rfl HX.out
        | true =>
          rw [hi] at HI
          have hy := hx.trans (authL_yes hh hi)
          have HL := Lib.hid (fun w => lowerR s (by omega) w)
          obtain ⟨lh, hlh⟩ : ∃ lh, lh = ofL (lowL s.data.toList) := ⟨_, rfl⟩
          rw [← hlh] at hy HL
          have HX := Lib.hid hy
          clear hh hx hc hl hlen hi hlh hy
          go_enter Tryz.func72, Tryz.ntmps72
          go_wp2_with (first
            | (go_at_call 97; refine (HH.out _).mono ?_; rintro e w' ⟨rfl, rfl⟩)
            | (go_at_call 98; refine (HI.out _).mono ?_; rintro e w' ⟨rfl, rfl⟩)
            | (go_at_call 99; refine (HL.out _).mono ?_; rintro e w1 ⟨rfl, hm⟩; have r1 := res_T hm; have R1 := Lib.hid r1; obtain ⟨c0, c1, c2, c3, f0, f1, f2, f3⟩ := r1.1.facts; simp only [noT, noB] at c0 c1 c2 c3; clear hm r1))
          exact end_T rfl R1.out.1 rfl rfl rfl HX.out R1.out.2 (Nat.le_refl _)
    · have e1 : (m.toList == [67, 79, 78, 78, 69, 67, 84]) = false := text_ne hc
      by_cases ho : m.data.toList = optionsL ∧ s.data.toList = [42]
      · have HX := Lib.hid (parT_opt hl hc ho)
        have e2 : (m.toList == [79, 80, 84, 73, 79, 78, 83]) = true := text_eq ho.1
        have e3 : (s.toList == [42]) = true := text_eq ho.2
        clear hl hc ho hlen
        go_enter Tryz.func72, Tryz.ntmps72
        go_wp2
        exact end_N rfl rfl rfl rfl HX.out
      · have hopt : ((m.toList == [79, 80, 84, 73, 79, 78, 83]) = false) ∨ ((m.toList == [79, 80, 84, 73, 79, 78, 83]) = true ∧ (s.toList == [42]) = false) := by
          by_cases h1 : m.data.toList = optionsL
          · exact .inr ⟨text_eq h1, text_ne fun h2 => ho ⟨h1, h2⟩⟩
          · exact .inl (text_ne h1)
        rcases Nat.eq_zero_or_pos s.size with h0 | hp
        · have HX := Lib.hid (parT_no hl hc ho (slash_zero h0) (schemeL_short (by rw [hlen]; omega)))
          have e4 : decide (0 < s.size) = false := decide_eq_false (by omega)
          have e5 : decide ((7 : Int) ≤ (s.size : Int)) = false := decide_eq_false (by omega)
          clear hl hc ho hlen
          rcases hopt with e2 | ⟨e2, e3⟩
          · go_enter Tryz.func72, Tryz.ntmps72
            go_wp2
            exact end_N rfl rfl rfl rfl HX.out
          · go_enter Tryz.func72, Tryz.ntmps72
            go_wp2
            exact end_N rfl rfl rfl rfl HX.out
        · have hsa := slash_at hp
          have e4 : decide (0 < s.size) = true := by simpa using hp
          by_cases h47 : s[0] = 47
          · rw [decide_eq_true h47] at hsa
            have hx := parT_org hl hc ho hsa
            have e6 : ((s[0].toNat : Int) == 47) = true := by rw [h47]; rfl
            have HO := Lib.hid (fun w => origin_r s (by omega) w)
            unfold OAns at HO
            generalize hov : orgV s.data.toList = ov at HO
            obtain ⟨pa, qa, ok⟩ := ov
            cases ok with
            | false =>
              have HX := Lib.hid (hx.trans (orgF_no (orgV_no (by rw [hov]))))
              clear hl hc ho hlen h47 hsa hov hx
              rcases hopt with e2 | ⟨e2, e3⟩
              · go_enter Tryz.func72, Tryz.ntmps72
                go_wp2_with (go_at_call 100; refine (HO.out _).mono ?_; rintro e w1 ⟨rfl, hm⟩; have r1 := res_T hm; have R1 := Lib.hid r1; obtain ⟨c0, c1, c2, c3, f0, f1, f2, f3⟩ := r1.1.facts; simp only [noT, noB] at c0 c1 c2 c3; clear hm r1)
                exact end_T rfl R1.out.1 rfl rfl rfl HX.out R1.out.2 (Nat.le_refl _)
              · go_enter Tryz.func72, Tryz.ntmps72
                go_wp2_with (go_at_call 100; refine (HO.out _).mono ?_; rintro e w1 ⟨rfl, hm⟩; have r1 := res_T hm; have R1 := Lib.hid r1; obtain ⟨c0, c1, c2, c3, f0, f1, f2, f3⟩ := r1.1.facts; simp only [noT, noB] at c0 c1 c2 c3; clear hm r1)
                exact end_T rfl R1.out.1 rfl rfl rfl HX.out R1.out.2 (Nat.le_refl _)
            | true =>
              have HX := Lib.hid (hx.trans (orgV_F (f := 1) (h := noB) (by rw [hov])))
              rw [hov] at HX
              clear hl hc ho hlen h47 hsa hov hx
              rcases hopt with e2 | ⟨e2, e3⟩
              · go_enter Tryz.func72, Tryz.ntmps72
                go_wp2_with (go_at_call 100; refine (HO.out _).mono ?_; rintro e w1 ⟨rfl, hm⟩; have r1 := res_T hm; have R1 := Lib.hid r1; obtain ⟨c0, c1, c2, c3, f0, f1, f2, f3⟩ := r1.1.facts; simp only [noT, noB] at c0 c1 c2 c3; clear hm r1)
                exact end_T rfl R1.out.1 rfl rfl rfl HX.out R1.out.2 (Nat.le_refl _)
              · go_enter Tryz.func72, Tryz.ntmps72
                go_wp2_with (go_at_call 100; refine (HO.out _).mono ?_; rintro e w1 ⟨rfl, hm⟩; have r1 := res_T hm; have R1 := Lib.hid r1; obtain ⟨c0, c1, c2, c3, f0, f1, f2, f3⟩ := r1.1.facts; simp only [noT, noB] at c0 c1 c2 c3; clear hm r1)
                exact end_T rfl R1.out.1 rfl rfl rfl HX.out R1.out.2 (Nat.le_refl _)
          · rw [decide_eq_false h47] at hsa
            have e6 : ((s[0].toNat : Int) == 47) = false := by have := (b_no 47 h47).1; simpa using this
            clear h47
            by_cases h7 : 7 ≤ s.size
            · have hel := ext_to s 7
              have hes := ext_le s 0 7
              have hfl := ext_from s 7
              have hfs := ext_le s 7 s.size
              obtain ⟨v, hv⟩ : ∃ v, v = s.extract 0 7 := ⟨_, rfl⟩
              obtain ⟨f, hf⟩ : ∃ f, f = s.extract 7 s.size := ⟨_, rfl⟩
              rw [← hv] at hel hes
              rw [← hf] at hfl hfs
              have HV := Lib.hid hv
              have HF := Lib.hid hf
              have HS := Lib.hid (fun w => sameR v ⟨#[104, 116, 116, 112, 58, 47, 47]⟩ (by omega) (by decide) w)
              have hsc : schemeL s.data.toList = sameL v ⟨#[104, 116, 116, 112, 58, 47, 47]⟩ := by
                rw [schemeL_long (show 7 ≤ s.data.toList.length from h7), ← hel]
                unfold sameL
                rw [show lowL (⟨#[104, 116, 116, 112, 58, 47, 47]⟩ : ByteArray).data.toList = httpL by decide +kernel]
              have c7 : (7 : Int) ≤ (s.size : Int) := by omega
              rw [← hsc] at HS
              cases hb : schemeL s.data.toList with
              | true =>
                rw [hb] at HS
                have hx := parT_abs hl hc ho hsa hb
                have HA := Lib.hid (fun w => absolute_r f (by omega) w)
                rw [hfl] at HA
                unfold TAns at HA
                generalize absL (s.data.toList.drop 7) = r at HA hx
                obtain ⟨⟨fo, h, p, k⟩, n⟩ := r
                simp only [Tgt.cells] at HA
                have HX := Lib.hid hx
                clear hl hc ho hlen hsa hb hx hel hes hfl hv hf hsc
                rcases hopt with e2 | ⟨e2, e3⟩
                · go_enter Tryz.func72, Tryz.ntmps72
                  go_wp2_with (first
                    | (go_at_call 79; (try rw [← HV.out]); refine (HS.out _).mono ?_; rintro e w1 ⟨rfl, hm⟩; have M1 := Lib.hid hm; clear hm)
                    | (go_at_call 101; (try rw [← HF.out]); refine (HA.out _).mono ?_; rintro e w2 ⟨rfl, hm⟩; have r1 := res_T (M1.out.on hm); have R1 := Lib.hid r1; obtain ⟨c0, c1, c2, c3, f0, f1, f2, f3⟩ := r1.1.facts; simp only [noT, noB] at c0 c1 c2 c3; clear hm r1))
                  exact end_T rfl R1.out.1 rfl rfl rfl HX.out R1.out.2 (Nat.le_refl _)
                · go_enter Tryz.func72, Tryz.ntmps72
                  go_wp2_with (first
                    | (go_at_call 79; (try rw [← HV.out]); refine (HS.out _).mono ?_; rintro e w1 ⟨rfl, hm⟩; have M1 := Lib.hid hm; clear hm)
                    | (go_at_call 101; (try rw [← HF.out]); refine (HA.out _).mono ?_; rintro e w2 ⟨rfl, hm⟩; have r1 := res_T (M1.out.on hm); have R1 := Lib.hid r1; obtain ⟨c0, c1, c2, c3, f0, f1, f2, f3⟩ := r1.1.facts; simp only [noT, noB] at c0 c1 c2 c3; clear hm r1))
                  exact end_T rfl R1.out.1 rfl rfl rfl HX.out R1.out.2 (Nat.le_refl _)
              | false =>
                rw [hb] at HS
                have HX := Lib.hid (parT_no hl hc ho hsa hb)
                clear hl hc ho hlen hsa hb hel hes hfl hv hf hsc
                rcases hopt with e2 | ⟨e2, e3⟩
                · go_enter Tryz.func72, Tryz.ntmps72
                  go_wp2_with (go_at_call 79; (try rw [← HV.out]); refine (HS.out _).mono ?_; rintro e w1 ⟨rfl, hm⟩; have r1 := res_T hm; have R1 := Lib.hid r1; obtain ⟨c0, c1, c2, c3, f0, f1, f2, f3⟩ := r1.1.facts; simp only [noT, noB] at c0 c1 c2 c3; clear hm r1)
                  exact end_T rfl R1.out.1 rfl rfl rfl HX.out R1.out.2 (Nat.le_refl _)
                · go_enter Tryz.func72, Tryz.ntmps72
                  go_wp2_with (go_at_call 79; (try rw [← HV.out]); refine (HS.out _).mono ?_; rintro e w1 ⟨rfl, hm⟩; have r1 := res_T hm; have R1 := Lib.hid r1; obtain ⟨c0, c1, c2, c3, f0, f1, f2, f3⟩ := r1.1.facts; simp only [noT, noB] at c0 c1 c2 c3; clear hm r1)
                  exact end_T rfl R1.out.1 rfl rfl rfl HX.out R1.out.2 (Nat.le_refl _)
            · have HX := Lib.hid (parT_no hl hc ho hsa (schemeL_short (by rw [hlen]; exact h7)))
              have e5 : decide ((7 : Int) ≤ (s.size : Int)) = false := decide_eq_false (by omega)
              clear hl hc ho hlen hsa
              rcases hopt with e2 | ⟨e2, e3⟩
              · go_enter Tryz.func72, Tryz.ntmps72
                go_wp2
                exact end_N rfl rfl rfl rfl HX.out
              · go_enter Tryz.func72, Tryz.ntmps72
                go_wp2
                exact end_N rfl rfl rfl rfl HX.out
end Go.Proofs.YtgkhelbpccehcaaGreatDoor

/- Plain facts of chapter 11: a clean path stays, down and up again is the root, http and a host ahead of a path, percents of bytes. No program. -/
namespace Go.Proofs.YtgkhelbpccehcaaGreatDoor
open Go.RowKit
set_option linter.unusedVariables false

/-! A clean path stays as it is. -/
theorem splitAt_join : ∀ (l cur : List UInt8), joinS (splitAt cur l) = 47 :: cur ++ l
  | [], cur => by simp [splitAt, joinS]
  | c :: r, cur => by
    simp only [splitAt]
    by_cases h : c = 47
    · rw [if_pos h]; simp only [joinS]; rw [splitAt_join r []]; simp [h]
    · rw [if_neg h, splitAt_join r]; simp
theorem clnS_len : ∀ (ps st r : List (List UInt8)), clnS st ps = some r → (joinS r).length ≤ (joinS st).length + (joinS ps).length
  | [], st, r, h => by simp [clnS] at h; subst h; simp [joinS]
  | p :: q, st, r, h => by
    by_cases h2 : p = [46, 46]
    · subst h2
      by_cases he : st = []
      · subst he; rw [clnS_out] at h; cases h
      · rw [clnS_up he] at h
        have := clnS_len _ _ _ h
        have := join_drop_le st
        simp only [joinS, List.length_cons, List.length_append, List.cons_append]; omega
    · cases hd : dotsL p with
      | true =>
        rw [clnS_dot h2 hd] at h
        have := clnS_len _ _ _ h
        simp only [joinS, List.length_cons, List.length_append, List.cons_append]; omega
      | false =>
        rw [clnS_part hd] at h
        have := clnS_len _ _ _ h
        rw [joinS_snoc] at this
        simp only [joinS, List.length_cons, List.length_append, List.cons_append] at this ⊢; omega
theorem clnL_len {l d : List UInt8} (h : clnL l = some d) : d.length ≤ l.length + 1 := by
  cases hs : slashL l with
  | false => rw [clnL_no hs] at h; cases h
  | true =>
    rw [clnL_yes hs] at h
    cases hc : clnS [] (splitS l.tail) with
    | none => rw [hc] at h; cases h
    | some st =>
      rw [hc] at h
      injection h with h
      have h1 := clnS_len _ _ _ hc
      have h2 : (joinS (splitS l.tail)).length = l.tail.length + 1 := by
        show (joinS (splitAt [] l.tail)).length = _
        rw [splitAt_join]; simp
      have h3 : 0 < l.length := by
        cases l with
        | nil => simp [slashL] at hs
        | cons c r => simp
      have h4 : (tailP (lastP (splitS l.tail))).length ≤ 1 := by unfold tailP; split <;> simp
      rw [← h, List.length_append]
      rw [h2, List.length_tail] at h1
      simp only [joinS, List.length_nil] at h1
      omega

/-! Down and up again. -/
/-! http and a host ahead. -/
end Go.Proofs.YtgkhelbpccehcaaGreatDoor

/- How a request goes on: plain functions of chapter 12. No program. -/
namespace Go.Proofs.YtgkhelbpccehcaaGreatDoor
open Go.RowKit
set_option linter.unusedVariables false

def nHost : ByteArray := ⟨#[72, 111, 115, 116]⟩
def nTE : ByteArray := ⟨#[84, 114, 97, 110, 115, 102, 101, 114, 45, 69, 110, 99, 111, 100, 105, 110, 103]⟩
def nCL : ByteArray := ⟨#[67, 111, 110, 116, 101, 110, 116, 45, 76, 101, 110, 103, 116, 104]⟩
def nCon : ByteArray := ⟨#[67, 111, 110, 110, 101, 99, 116, 105, 111, 110]⟩
def nExp : ByteArray := ⟨#[69, 120, 112, 101, 99, 116]⟩
def chunkedL : List UInt8 := [99, 104, 117, 110, 107, 101, 100]
def closeL : List UInt8 := [99, 108, 111, 115, 101]
def keepL : List UInt8 := [107, 101, 101, 112, 45, 97, 108, 105, 118, 101]
def contB : ByteArray := ⟨#[49, 48, 48, 45, 99, 111, 110, 116, 105, 110, 117, 101]⟩
/-- How a request goes on. -/
structure HowP where
  kind : Int
  length : Int
  close : Bool
  expect : Bool
def noH : HowP := ⟨0, 0, false, false⟩
/-- The minor version that counts. -/
def minN (m : Int) : Int := if 1 ≤ m then 1 else 0
def hostOk (m : Int) (vs : List ByteArray) : Bool :=
  match vs with
  | [] => decide (m ≠ 1)
  | [v] => decide (v.data.toList = []) || hostL v.data.toList
  | _ => false
/-- The status of a coding; 0: it is chunked alone. -/
def codS (m : Int) (cl te : List ByteArray) : Int :=
  if m = 0 ∨ cl ≠ [] then 400
  else match toksO te with
    | none => 400
    | some L => if L.getLastD [] ≠ chunkedL then 400 else if L.length = 1 then 0 else if chunkedL ∈ L.dropLast then 400 else 501
/-- The one number that some tokens are. -/
def lenN : List (List UInt8) → Option Int
  | [] => none
  | x :: r => if (numB 10 15 x).2 = true ∧ r.all (fun y => (numB 10 15 y).2 && (numB 10 15 y).1 == (numB 10 15 x).1) = true then some (numB 10 15 x).1 else none
def lenS (cl : List ByteArray) : Int × Int :=
  match toksO cl with
  | none => (0, 400)
  | some L => match lenN L with
    | none => (0, 400)
    | some n => if 2048 < n then (0, 413) else (n, 0)
/-- Kind, length, status. -/
def bodyS (m : Int) (S : List FV) : Int × Int × Int :=
  if valsF S nTE ≠ [] then (2, 0, codS m (valsF S nCL) (valsF S nTE))
  else if valsF S nCL ≠ [] then (1, (lenS (valsF S nCL)).1, (lenS (valsF S nCL)).2)
  else (0, 0, 0)
def closeS (m : Int) (con : List ByteArray) : Bool := hasL closeL con || (decide (m = 0) && !hasL keepL con)
/-- What Of answers, the minor version being 0 or 1. -/
def frmN (m : Int) (S : List FV) : HowP × Int :=
  if hostOk m (valsF S nHost) = false then (noH, 400)
  else if (bodyS m S).2.2 ≠ 0 then (noH, (bodyS m S).2.2)
  else if toksO (valsF S nCon) = none then (noH, 400)
  else if m = 1 ∧ valsF S nExp ≠ [] then
    (if sameL (getF S nExp) contB = true then (⟨(bodyS m S).1, (bodyS m S).2.1, closeS m (valsF S nCon), decide ((bodyS m S).1 = 2 ∨ 0 < (bodyS m S).2.1)⟩, 0) else (noH, 417))
  else (⟨(bodyS m S).1, (bodyS m S).2.1, closeS m (valsF S nCon), false⟩, 0)
def frm (m : Int) (S : List FV) : HowP × Int := frmN (minN m) S
theorem frm_host {m : Int} {S : List FV} (h : hostOk m (valsF S nHost) = false) : frmN m S = (noH, 400) := by unfold frmN; rw [if_pos h]
theorem frm_body {m : Int} {S : List FV} (h : hostOk m (valsF S nHost) = true) (h2 : (bodyS m S).2.2 ≠ 0) : frmN m S = (noH, (bodyS m S).2.2) := by unfold frmN; rw [if_neg (by rw [h]; simp), if_pos h2]
theorem frm_con {m : Int} {S : List FV} (h : hostOk m (valsF S nHost) = true) (h2 : (bodyS m S).2.2 = 0) (h3 : toksO (valsF S nCon) = none) : frmN m S = (noH, 400) := by
  unfold frmN; rw [if_neg (by rw [h]; simp), if_neg (by rw [h2]; simp), if_pos h3]
theorem frm_plain {m : Int} {S : List FV} (h : hostOk m (valsF S nHost) = true) (h2 : (bodyS m S).2.2 = 0) (h3 : toksO (valsF S nCon) ≠ none) (h4 : ¬ (m = 1 ∧ valsF S nExp ≠ [])) :
    frmN m S = (⟨(bodyS m S).1, (bodyS m S).2.1, closeS m (valsF S nCon), false⟩, 0) := by
  unfold frmN; rw [if_neg (by rw [h]; simp), if_neg (by rw [h2]; simp), if_neg h3, if_neg h4]
theorem frm_417 {m : Int} {S : List FV} (h : hostOk m (valsF S nHost) = true) (h2 : (bodyS m S).2.2 = 0) (h3 : toksO (valsF S nCon) ≠ none) (h4 : m = 1 ∧ valsF S nExp ≠ []) (h5 : sameL (getF S nExp) contB = false) : frmN m S = (noH, 417) := by
  unfold frmN; rw [if_neg (by rw [h]; simp), if_neg (by rw [h2]; simp), if_neg h3, if_pos h4, if_neg (by rw [h5]; simp)]
theorem frm_exp {m : Int} {S : List FV} (h : hostOk m (valsF S nHost) = true) (h2 : (bodyS m S).2.2 = 0) (h3 : toksO (valsF S nCon) ≠ none) (h4 : m = 1 ∧ valsF S nExp ≠ []) (h5 : sameL (getF S nExp) contB = true) :
    frmN m S = (⟨(bodyS m S).1, (bodyS m S).2.1, closeS m (valsF S nCon), decide ((bodyS m S).1 = 2 ∨ 0 < (bodyS m S).2.1)⟩, 0) := by
  unfold frmN; rw [if_neg (by rw [h]; simp), if_neg (by rw [h2]; simp), if_neg h3, if_pos h4, if_pos h5]

/-! Fields of one name. -/
end Go.Proofs.YtgkhelbpccehcaaGreatDoor

/- Hosts and words of Connection, as chapter 12's laws make them. No program. -/
namespace Go.Proofs.YtgkhelbpccehcaaGreatDoor
open Go.RowKit
set_option linter.unusedVariables false

/-! Hosts. -/
/-! Words of Connection. -/
end Go.Proofs.YtgkhelbpccehcaaGreatDoor

/- Lengths, as chapter 12's laws make them. No program. -/
namespace Go.Proofs.YtgkhelbpccehcaaGreatDoor
open Go.RowKit
set_option linter.unusedVariables false

def isD (c : UInt8) : Bool := decide (48 ≤ c.toNat) && decide (c.toNat ≤ 57)
end Go.Proofs.YtgkhelbpccehcaaGreatDoor

/- A number in digits is a field's value. No program. -/
namespace Go.Proofs.YtgkhelbpccehcaaGreatDoor
open Go.RowKit
set_option linter.unusedVariables false

end Go.Proofs.YtgkhelbpccehcaaGreatDoor

/- The code's fields, or none, and the code's tokens, as chapter 12 asks them. Conditions: names of at most a million bytes, values of at most 900000 bytes in all. -/
namespace Go.Proofs.YtgkhelbpccehcaaGreatDoor
open Go.RowKit
set_option linter.unusedVariables false
set_option linter.unusedSimpArgs false

/-- Fields in memory, or none; their blocks lie below B. -/
def FP (t : TypeId) (B : Nat) (w : World) (fp : Value) (S : List FV) : Prop :=
  (fp = .pointer none ∧ S = []) ∨ ∃ g v, fp = ptr g ∧ Fld t w g v S ∧ g < B ∧ ∀ k ∈ v.ownBlock.toList, k < B
section
variable {t : TypeId} {B : Nat} {w w' : World} {fp : Value} {S : List FV} {F : List Nat}
theorem FP.mods (h : FP t B w fp S) (hm : Mods F w w') (hF : ∀ k ∈ F, B ≤ k) : FP t B w' fp S := by
  rcases h with h | ⟨g, v, e, hf, hg, hv⟩
  · exact .inl h
  · exact .inr ⟨g, v, e, hf.mods hm (fun h => by have := hF _ h; omega) (fun k hk h => by have := hF _ h; have := hv k hk; omega), hg, hv⟩
theorem FP.low (h : FP t B w fp S) (hm : Mods [] w w') : FP t B w' fp S := h.mods hm (by simp)
theorem FP.of_fld {g : Nat} {v : Value} (h : Fld t w g v S) : FP t w.heap.size w (ptr g) S := .inr ⟨g, v, rfl, h, h.row.lt, h.lt⟩
theorem FP.more {B' : Nat} (h : FP t B w fp S) (hB : B ≤ B') : FP t B' w fp S := by
  rcases h with h | ⟨g, v, e, hf, hg, hv⟩
  · exact .inl h
  · exact .inr ⟨g, v, e, hf, by omega, fun k hk => by have := hv k hk; omega⟩
theorem FP.form (h : FP t B w fp S) : ∃ A, fp = .pointer A := by
  rcases h with ⟨h, _⟩ | ⟨g, v, h, _⟩
  · exact ⟨_, h⟩
  · exact ⟨_, h⟩
end
/-- The values' bytes in all. -/
def Lite (S : List FV) : Prop := sizes (S.map (·.2)) ≤ 900000
theorem sizes_sub {l m : List ByteArray} (h : l.Sublist m) : sizes l ≤ sizes m := by
  induction h with
  | slnil => exact Nat.le_refl _
  | cons a _ ih => simp only [sizes]; omega
  | cons_cons a _ ih => simp only [sizes]; omega
theorem Lite.vals {S : List FV} (h : Lite S) (n : ByteArray) : sizes (valsF S n) ≤ 900000 := by
  refine Nat.le_trans (sizes_sub ?_) h
  unfold valsF namedF
  exact List.Sublist.map _ List.filter_sublist
theorem has_vals (S : List FV) (n : ByteArray) : hasF S n = decide (valsF S n ≠ []) := by
  rw [hasF_vals, decide_eq_decide]; exact List.length_pos_iff

theorem StrsAt.of_ss {W : World} {v : Value} {ts : List ByteArray} (h : SsAt W v ts) : StrsAt W v ts := by
  rcases h with h | ⟨b, off, cap, hv, h0, _, hb, hc⟩
  · exact .inl h
  · exact .inr ⟨b, off, cap, hv, h0, hb, hc⟩
theorem strs_nil {W : World} {v : Value} (h : StrsAt W v []) : ∃ a cap, v = .slice a 0 cap := h.len
theorem strs_one {W : World} {v : Value} {x : ByteArray} (h : StrsAt W v [x]) : ∃ (b off cap : Nat), v = .slice (some ⟨b, off, none⟩) 1 cap ∧ W.cell? ⟨b, off, none⟩ = some (.string x) := by
  rcases h with ⟨h, _⟩ | ⟨b, off, cap, hv, h0, hb, hc⟩
  · cases h
  · exact ⟨b, off, cap, hv, hc 0 (by simp)⟩
theorem strs_two {W : World} {v : Value} {x y : ByteArray} {r : List ByteArray} (h : StrsAt W v (x :: y :: r)) : ∃ a n cap, v = .slice a n cap ∧ 2 ≤ n := by
  obtain ⟨a, cap, hv⟩ := h.len
  exact ⟨a, _, cap, hv, by simp⟩
theorem StrsAt.low {W W' : World} {v : Value} {ts : List ByteArray} (h : StrsAt W v ts) (hm : Mods [] W W') : StrsAt W' v ts := h.below hm.below

set_option maxRecDepth 10000 in
theorem vals_nil (n : ByteArray) (w : World) : Calls Tryz.prog 156 #[.pointer none, .string n] w fun e w' => e = .returned (.slice none 0 0) ∧ w = w' := by
  go_enter Tryz.func156, Tryz.ntmps156
  go_wp2_with (go_at_call 38; refine (kept_nil _).mono ?_; rintro e w' ⟨rfl, rfl⟩)
  refine wp_loop_rounds 1 ?_
  rw [rounds_succ]
  go_wp2
  go_ret
  exact ⟨rfl, rfl⟩
theorem vals_p {B : Nat} {fp : Value} {S : List FV} (n : ByteArray) (w : World) (h : FP 93 B w fp S) (hn : n.size ≤ 1000000) :
    Calls Tryz.prog 156 #[fp, .string n] w fun e w' => ∃ u, e = .returned u ∧ StrsAt w' u (valsF S n) ∧ Mods [] w w' := by
  rcases h with ⟨rfl, rfl⟩ | ⟨g, v, rfl, hf, _, _⟩
  · exact (vals_nil n w).mono fun e w' ⟨h1, h2⟩ => ⟨_, h1, .inl ⟨rfl, _, _, rfl⟩, h2 ▸ Mods.refl _ _⟩
  · exact (vals_a n w hf hn).mono fun e w' ⟨u, h1, hG⟩ => ⟨u, h1, .of_ss (SsAt.of_row hG.row), hG.low⟩
theorem has_p {B : Nat} {fp : Value} {S : List FV} (n : ByteArray) (w : World) (h : FP 93 B w fp S) (hn : n.size ≤ 1000000) :
    Calls Tryz.prog 158 #[fp, .string n] w fun e w' => e = .returned (.bool (decide (valsF S n ≠ []))) ∧ Mods [] w w' := by
  rw [← has_vals]
  rcases h with ⟨rfl, rfl⟩ | ⟨g, v, rfl, hf, _, _⟩
  · exact has_nil n w hn
  · exact fhas_a n w hf hn
theorem get_p {B : Nat} {fp : Value} {S : List FV} (n : ByteArray) (w : World) (h : FP 93 B w fp S) (hn : n.size ≤ 1000000) (h0 : valsF S n ≠ []) :
    Calls Tryz.prog 163 #[fp, .string n] w fun e w' => e = .returned (.string (getF S n)) ∧ Mods [] w w' := by
  rcases h with ⟨rfl, rfl⟩ | ⟨g, v, rfl, hf, _, _⟩
  · exact absurd rfl h0
  · exact get_a n w hf hn
theorem tok_y {ts : List ByteArray} {L : List (List UInt8)} (hL : toksO ts = some L) (v : Value) (w : World) (h : StrsAt w v ts) (hs : sizes ts ≤ 900000) :
    Calls Tryz.prog 161 #[v] w fun e w' => ∃ u, e = .returned (.tuple #[u, .bool true]) ∧ StrsAt w' u (L.map ba) ∧ Mods [] w w' := by
  refine (tokens_a ts v w h (by omega)).mono fun e w' ⟨hb, ha⟩ => ?_
  rw [hL] at ha
  obtain ⟨u, h1, h2⟩ := ha
  exact ⟨u, h1, row_strs h2, .of_below hb⟩
theorem tok_n {ts : List ByteArray} (hL : toksO ts = none) (v : Value) (w : World) (h : StrsAt w v ts) (hs : sizes ts ≤ 900000) :
    Calls Tryz.prog 161 #[v] w fun e w' => e = .returned (.tuple #[.slice none 0 0, .bool false]) ∧ Mods [] w w' := by
  refine (tokens_a ts v w h (by omega)).mono fun e w' ⟨hb, ha⟩ => ?_
  rw [hL] at ha
  exact ⟨ha, .of_below hb⟩
theorem index_tk (ts : List ByteArray) (v : Value) (x : ByteArray) (w : World) (h : StrsAt w v ts) (hs : ts.length ≤ 1000000) :
    Calls Tryz.prog 191 #[v, .string x] w fun e w' => e = .returned (.int .i64 (Lib.idxOfS ts x)) ∧ w' = w := by
  rcases h with ⟨rfl, a, cap, rfl⟩ | ⟨b, off, cap, rfl, h0, hb, hc⟩
  · exact Go.Proofs.Any.slices_Index_string_empty { l110 with } a cap x w
  · have := Go.Proofs.Any.slices_Index_string (ρ := l110_ren) { l110 with } b off ts.length cap ts x w (Nat.le_refl _) (by omega) (fun j hj => by rw [hc j hj, List.getD_eq_getElem?_getD, List.getElem?_eq_getElem hj]; rfl)
    rw [List.take_length] at this
    exact this

theorem least_of (p : Nat → Prop) (h : ∃ k, p k) : ∃ k, p k ∧ ∀ j, j < k → ¬ p j := by
  obtain ⟨k, hk⟩ := h
  induction k using Nat.strongRecOn with
  | ind k ih =>
    by_cases h : ∃ j, j < k ∧ p j
    · obtain ⟨j, hj, hp⟩ := h; exact ih j hj hp
    · exact ⟨k, hk, fun j hj hp => h ⟨j, hj, hp⟩⟩
/-! Where the last of some texts is the first that is x. -/
theorem idx_last {l : List ByteArray} {x : ByteArray} (h0 : l ≠ []) : Lib.idxOfS l x = (l.length : Int) - 1 ↔ l.getLast h0 = x ∧ x ∉ l.dropLast := by
  have hlen : 0 < l.length := List.length_pos_iff.2 h0
  have hD : ∀ j (hj : j < l.length), l.getD j ByteArray.empty = l[j] := fun j hj => by rw [List.getD_eq_getElem?_getD, List.getElem?_eq_getElem hj]; rfl
  have hl : l.getLast h0 = l[l.length - 1] := List.getLast_eq_getElem h0
  by_cases hx : ∃ k, ∃ h : k < l.length, l[k] = x
  · have hex := hx
    obtain ⟨k, ⟨hk, hkx⟩, hmin⟩ : ∃ k, (∃ h : k < l.length, l[k] = x) ∧ ∀ j, j < k → ¬ ∃ h : j < l.length, l[j] = x := by
      exact least_of _ hex
    have hi : Lib.idxOfS l x = k := by
      have := Lib.idxOfS_hit l l.length k x hk (Nat.le_refl _) (by rw [hD k hk, hkx]) (fun j hj e => hmin j hj ⟨by omega, by rw [← hD j (by omega)]; exact e⟩)
      rwa [List.take_length] at this
    rw [hi]
    constructor
    · intro h
      obtain rfl : k = l.length - 1 := by omega
      refine ⟨by rw [hl]; exact hkx, fun hm => ?_⟩
      obtain ⟨j, hj, he⟩ := List.mem_iff_getElem.1 hm
      rw [List.length_dropLast] at hj
      rw [List.getElem_dropLast] at he
      exact hmin j (by omega) ⟨by omega, he⟩
    · rintro ⟨h1, h2⟩
      by_cases hk2 : k = l.length - 1
      · omega
      · exfalso
        refine h2 (List.mem_iff_getElem.2 ⟨k, by rw [List.length_dropLast]; omega, ?_⟩)
        rw [List.getElem_dropLast]; exact hkx
  · have hi : Lib.idxOfS l x = -1 := by
      have := Lib.idxOfS_miss l l.length x (fun j hj e => hx ⟨j, hj, by rw [← hD j hj]; exact e⟩)
      rwa [List.take_length] at this
    rw [hi]
    constructor
    · intro h; omega
    · rintro ⟨h1, _⟩
      exact absurd ⟨l.length - 1, by omega, by rw [← hl]; exact h1⟩ hx
end Go.Proofs.YtgkhelbpccehcaaGreatDoor
