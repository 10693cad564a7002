/- Absolute targets and Parse of the code. Conditions: a method and a text of at most a million bytes. -/
import Derived.Test.YtgckpoecdaioiaaTl11
namespace Go.Proofs.Ytgckpoecdaioiaa
open Go.RowKit
set_option linter.unusedVariables false
set_option linter.unusedSimpArgs false

set_option maxRecDepth 10000 in
set_option maxHeartbeats 400000 in
theorem absolute_a (s : ByteArray) (hs : s.size ≤ 900000) (w : World) : Calls Try.prog 26 #[.string s] w (TAns w (absL s.data.toList)) := by
  have HU := Lib.hid (fun w => upto_a s ⟨#[47, 63]⟩ (by omega) w)
  have hul := up_end s
  have hus := upA_size ⟨#[47, 63]⟩ s
  obtain ⟨u, hu⟩ : ∃ u, u = upA ⟨#[47, 63]⟩ s := ⟨_, rfl⟩
  rw [← hu] at HU hul hus
  clear hu
  have HUL := Lib.hid hul
  have hlen : (hostOf s.data.toList).length = u.size := by rw [← hul]; rfl
  have HH := Lib.hid (fun w => host_a u w (by omega))
  clear hul
  rw [HUL.out] at HH
  cases hh : hostL (hostOf s.data.toList) with
  | false =>
    rw [hh] at HH
    have HX := Lib.hid (absL_no hh)
    clear hh hlen
    go_enter Try.func26, Try.ntmps26
    go_wp2_with (first
      | (go_at_call 36; refine (HU.out _).mono ?_; rintro e w' ⟨rfl, rfl⟩)
      | (go_at_call 20; refine (HH.out _).mono ?_; rintro e w' ⟨rfl, rfl⟩))
    exact end_N rfl rfl rfl rfl HX.out
  | true =>
    rw [hh] at HH
    have hx := absL_yes hh
    have hvl := ext_from s u.size
    have hvs := ext_le s u.size s.size
    have c1 : (0 : Int) ≤ (u.size : Int) := by omega
    have c2 : (u.size : Int) ≤ (s.size : Int) := by omega
    obtain ⟨v, hv⟩ : ∃ v, v = s.extract u.size s.size := ⟨_, rfl⟩
    rw [← hv] at hvl hvs
    have HV := Lib.hid hv
    have HS := Lib.hid (fun w => slash_a v w (by omega))
    have hrest : restOf s.data.toList = if slashL v.data.toList = true then v.data.toList else 47 :: v.data.toList := by unfold restOf; rw [hlen, hvl]
    have HL := Lib.hid (fun w => lowerK u (by omega) w)
    rw [HUL.out] at HL
    obtain ⟨lh, hlh⟩ : ∃ lh, lh = ofL (lowL (hostOf s.data.toList)) := ⟨_, rfl⟩
    rw [← hlh] at hx HL
    clear hh hlen hlh hv hvl
    cases hsl : slashL v.data.toList with
    | false =>
      rw [hsl] at HS hrest
      rw [if_neg (by simp)] at hrest
      have HJ := Lib.hid (fun w b hb => join2 ⟨#[47]⟩ v (by decide) (by omega) w b hb)
      have hjl : (ofL ((⟨#[47]⟩ : ByteArray).data.toList ++ v.data.toList)).data.toList = restOf s.data.toList := by rw [ofL_list, hrest]; rfl
      have hjs : (ofL ((⟨#[47]⟩ : ByteArray).data.toList ++ v.data.toList)).size ≤ 1000000 := by rw [ofL_size, List.length_append, len_data, len_data]; show 1 + _ ≤ _; omega
      obtain ⟨jt, hjt⟩ : ∃ jt, jt = ofL ((⟨#[47]⟩ : ByteArray).data.toList ++ v.data.toList) := ⟨_, rfl⟩
      rw [← hjt] at HJ hjl hjs
      have HO := Lib.hid (fun w => origin_a jt hjs w)
      rw [hjl] at HO
      clear hjl hjt
      unfold TAns at HO
      clear hsl hrest
      rcases orgF_cases (restOf s.data.toList) with hc | ⟨p, q, hc⟩
      · rw [orgF_no hc] at HO
        simp only [Tgt.cells, noT, noB] at HO
        have HX := Lib.hid (hx.trans (orgF_no hc))
        clear hc hx
        go_enter Try.func26, Try.ntmps26
        go_upto_region 8 with (first
          | (go_at_call 36; refine (HU.out _).mono ?_; rintro e w' ⟨rfl, rfl⟩)
          | (go_at_call 20; refine (HH.out _).mono ?_; rintro e w' ⟨rfl, rfl⟩)
          | (go_at_call 23; (try rw [← HV.out]); refine (HS.out _).mono ?_; rintro e w' ⟨rfl, rfl⟩)
          | (go_at_call 47; (try rw [← HV.out]); refine Calls.mono (HJ.out _ _ (by simp)) ?_; rintro e w1 ⟨rfl, hm⟩; have r1 := res_T hm; have R1 := Lib.hid r1; clear hm r1)
          | (go_at_call 24; refine (HO.out _).mono ?_; rintro e w2 ⟨rfl, hm⟩; have R2 := Lib.hid (And.intro (R1.out.1.mods hm (by simp)) (R1.out.2.on hm)); clear hm))
        obtain ⟨w3, hw3⟩ : ∃ w3, w3 = w2.alloc (.cells #[.int .i64 0, .string noB, .string noB, .string noB] 23) := ⟨_, rfl⟩
        have hr3 : Row w3 w.heap.size 23 noT.cells := by rw [hw3]; exact R2.out.1.alloc _
        have hm3 : Mods [] w w3 := by rw [hw3]; exact R2.out.2.alloc _
        simp only [noB] at hw3
        rw [← hw3]
        clear hw3 R2
        have R3 := Lib.hid (And.intro hr3 hm3)
        clear hr3 hm3
        obtain ⟨c0, c1, c2, c3, f0, f1, f2, f3⟩ := R3.out.1.facts
        simp only [noT, noB] at c0 c1 c2 c3
        go_wp2
        exact end_T rfl R3.out.1 rfl rfl rfl HX.out R3.out.2 (Nat.le_refl _)
      · rw [orgF_yes hc] at HO
        have hx2 := hx.trans (orgF_yes hc)
        obtain ⟨pa, hpa⟩ : ∃ pa, pa = ofL p := ⟨_, rfl⟩
        obtain ⟨qa, hqa⟩ : ∃ qa, qa = ofL q := ⟨_, rfl⟩
        rw [← hpa, ← hqa] at HO hx2
        simp only [Tgt.cells, noB] at HO
        have HX := Lib.hid hx2
        clear hc hx hx2 hpa hqa
        go_enter Try.func26, Try.ntmps26
        go_upto_region 8 with (first
          | (go_at_call 36; refine (HU.out _).mono ?_; rintro e w' ⟨rfl, rfl⟩)
          | (go_at_call 20; refine (HH.out _).mono ?_; rintro e w' ⟨rfl, rfl⟩)
          | (go_at_call 23; (try rw [← HV.out]); refine (HS.out _).mono ?_; rintro e w' ⟨rfl, rfl⟩)
          | (go_at_call 47; (try rw [← HV.out]); refine Calls.mono (HJ.out _ _ (by simp)) ?_; rintro e w1 ⟨rfl, hm⟩; have r1 := res_T hm; have R1 := Lib.hid r1; clear hm r1)
          | (go_at_call 24; refine (HO.out _).mono ?_; rintro e w2 ⟨rfl, hm⟩; have R2 := Lib.hid (And.intro (R1.out.1.mods hm (by simp)) (R1.out.2.on hm)); clear hm))
        obtain ⟨w3, hw3⟩ : ∃ w3, w3 = w2.alloc (.cells #[.int .i64 1, .string noB, .string pa, .string qa] 23) := ⟨_, rfl⟩
        obtain ⟨n1, hn1⟩ : ∃ n1, n1 = w2.heap.size := ⟨_, rfl⟩
        obtain ⟨n0, hn0⟩ : ∃ n0, n0 = w.heap.size := ⟨_, rfl⟩
        have hr3 : Row w3 n0 23 noT.cells := by rw [hw3, hn0]; exact R2.out.1.alloc _
        have ht3 : Row w3 n1 23 (⟨1, noB, pa, qa⟩ : Tgt).cells := by rw [hw3, hn1]; exact Row.new w2 _ _
        have hm3 : Mods [] w w3 := by rw [hw3]; exact R2.out.2.alloc _
        have hne : n0 < n1 := by rw [hn1, hn0]; exact R2.out.1.lt
        have HN0 := Lib.hid (show w.heap.size ≤ n0 by omega)
        rw [← hn1, ← hn0]
        simp only [noB] at hw3 ⊢
        rw [← hw3]
        clear hw3 hn1 hn0 R2
        have HR3 := Lib.hid hr3
        have HT3 := Lib.hid ht3
        have HM3 := Lib.hid hm3
        clear hr3 ht3 hm3
        go_upto_region 11 with (go_at_call 43; refine (HL.out _).mono ?_; rintro e w4 ⟨rfl, hm⟩; have R4 := Lib.hid (HR3.out.mods hm (by simp)); have T4 := Lib.hid (HT3.out.mods hm (by simp)); have M4 := Lib.hid (HM3.out.on hm); have t0 := T4.out.cell 0; have t1 := T4.out.cell 1; have tf0 := T4.out.free 0; have tf1 := T4.out.free 1; simp only [Tgt.cells, List.getElem?_toArray, List.getElem?_cons_zero, List.getElem?_cons_succ, noB] at t0 t1; clear hm)
        obtain ⟨w5, hw5⟩ : ∃ w5, w5 = (w4.setCell ⟨n1, 0, none⟩ (.int .i64 2)).setCell ⟨n1, 1, none⟩ (.string lh) := ⟨_, rfl⟩
        have hr5 : Row w5 n0 23 noT.cells := by rw [hw5]; exact (R4.out.far (p := ⟨n1, 0, none⟩) (by show n0 ≠ n1; omega) _).far (p := ⟨n1, 1, none⟩) (by show n0 ≠ n1; omega) _
        have ht5 : Row w5 n1 23 (⟨2, lh, pa, qa⟩ : Tgt).cells := by rw [hw5]; exact (T4.out.set 0 (.int .i64 2)).set 1 (.string lh)
        have hm5 : Mods [] w w5 := by rw [hw5]; exact (M4.out.setCell (p := ⟨n1, 0, none⟩) (.inr (by show _ ≤ n1; have := HN0.out; omega)) _).setCell (p := ⟨n1, 1, none⟩) (.inr (by show _ ≤ n1; have := HN0.out; omega)) _
        rw [← hw5]
        clear hw5 t0 t1 tf0 tf1 R4 T4 M4 HR3 HT3 HM3
        have HR5 := Lib.hid hr5
        have HT5 := Lib.hid ht5
        have HM5 := Lib.hid hm5
        clear hr5 ht5 hm5
        obtain ⟨c0, c1, c2, c3, f0, f1, f2, f3⟩ := HR5.out.facts
        obtain ⟨d0, d1, d2, d3, -, -, -, -⟩ := HT5.out.facts
        simp only [noT, noB] at c0 c1 c2 c3 d0 d1 d2 d3
        go_wp2
        exact end_T rfl HR5.out rfl rfl rfl HX.out HM5.out HN0.out
    | true =>
      rw [hsl] at HS hrest
      rw [if_pos rfl] at hrest
      have HO := Lib.hid (fun w => origin_a v (by omega) w)
      rw [← hrest] at HO
      unfold TAns at HO
      clear hsl hrest
      rcases orgF_cases (restOf s.data.toList) with hc | ⟨p, q, hc⟩
      · rw [orgF_no hc] at HO
        simp only [Tgt.cells, noT, noB] at HO
        have HX := Lib.hid (hx.trans (orgF_no hc))
        clear hc hx
        go_enter Try.func26, Try.ntmps26
        go_upto_region 8 with (first
          | (go_at_call 36; refine (HU.out _).mono ?_; rintro e w' ⟨rfl, rfl⟩)
          | (go_at_call 20; refine (HH.out _).mono ?_; rintro e w' ⟨rfl, rfl⟩)
          | (go_at_call 23; (try rw [← HV.out]); refine (HS.out _).mono ?_; rintro e w' ⟨rfl, rfl⟩)
          | (go_at_call 24; (try rw [← HV.out]); refine (HO.out _).mono ?_; rintro e w2 ⟨rfl, hm⟩; have r2 := res_T hm; have R2 := Lib.hid r2; clear hm r2))
        obtain ⟨w3, hw3⟩ : ∃ w3, w3 = w2.alloc (.cells #[.int .i64 0, .string noB, .string noB, .string noB] 23) := ⟨_, rfl⟩
        have hr3 : Row w3 w.heap.size 23 noT.cells := by rw [hw3]; exact R2.out.1.alloc _
        have hm3 : Mods [] w w3 := by rw [hw3]; exact R2.out.2.alloc _
        simp only [noB] at hw3
        rw [← hw3]
        clear hw3 R2
        have R3 := Lib.hid (And.intro hr3 hm3)
        clear hr3 hm3
        obtain ⟨c0, c1, c2, c3, f0, f1, f2, f3⟩ := R3.out.1.facts
        simp only [noT, noB] at c0 c1 c2 c3
        go_wp2
        exact end_T rfl R3.out.1 rfl rfl rfl HX.out R3.out.2 (Nat.le_refl _)
      · rw [orgF_yes hc] at HO
        have hx2 := hx.trans (orgF_yes hc)
        obtain ⟨pa, hpa⟩ : ∃ pa, pa = ofL p := ⟨_, rfl⟩
        obtain ⟨qa, hqa⟩ : ∃ qa, qa = ofL q := ⟨_, rfl⟩
        rw [← hpa, ← hqa] at HO hx2
        simp only [Tgt.cells, noB] at HO
        have HX := Lib.hid hx2
        clear hc hx hx2 hpa hqa
        go_enter Try.func26, Try.ntmps26
        go_upto_region 8 with (first
          | (go_at_call 36; refine (HU.out _).mono ?_; rintro e w' ⟨rfl, rfl⟩)
          | (go_at_call 20; refine (HH.out _).mono ?_; rintro e w' ⟨rfl, rfl⟩)
          | (go_at_call 23; (try rw [← HV.out]); refine (HS.out _).mono ?_; rintro e w' ⟨rfl, rfl⟩)
          | (go_at_call 24; (try rw [← HV.out]); refine (HO.out _).mono ?_; rintro e w2 ⟨rfl, hm⟩; have r2 := res_T hm; have R2 := Lib.hid r2; clear hm r2))
        obtain ⟨w3, hw3⟩ : ∃ w3, w3 = w2.alloc (.cells #[.int .i64 1, .string noB, .string pa, .string qa] 23) := ⟨_, rfl⟩
        obtain ⟨n1, hn1⟩ : ∃ n1, n1 = w2.heap.size := ⟨_, rfl⟩
        obtain ⟨n0, hn0⟩ : ∃ n0, n0 = w.heap.size := ⟨_, rfl⟩
        have hr3 : Row w3 n0 23 noT.cells := by rw [hw3, hn0]; exact R2.out.1.alloc _
        have ht3 : Row w3 n1 23 (⟨1, noB, pa, qa⟩ : Tgt).cells := by rw [hw3, hn1]; exact Row.new w2 _ _
        have hm3 : Mods [] w w3 := by rw [hw3]; exact R2.out.2.alloc _
        have hne : n0 < n1 := by rw [hn1, hn0]; exact R2.out.1.lt
        have HN0 := Lib.hid (show w.heap.size ≤ n0 by omega)
        rw [← hn1, ← hn0]
        simp only [noB] at hw3 ⊢
        rw [← hw3]
        clear hw3 hn1 hn0 R2
        have HR3 := Lib.hid hr3
        have HT3 := Lib.hid ht3
        have HM3 := Lib.hid hm3
        clear hr3 ht3 hm3
        go_upto_region 11 with (go_at_call 43; refine (HL.out _).mono ?_; rintro e w4 ⟨rfl, hm⟩; have R4 := Lib.hid (HR3.out.mods hm (by simp)); have T4 := Lib.hid (HT3.out.mods hm (by simp)); have M4 := Lib.hid (HM3.out.on hm); have t0 := T4.out.cell 0; have t1 := T4.out.cell 1; have tf0 := T4.out.free 0; have tf1 := T4.out.free 1; simp only [Tgt.cells, List.getElem?_toArray, List.getElem?_cons_zero, List.getElem?_cons_succ, noB] at t0 t1; clear hm)
        obtain ⟨w5, hw5⟩ : ∃ w5, w5 = (w4.setCell ⟨n1, 0, none⟩ (.int .i64 2)).setCell ⟨n1, 1, none⟩ (.string lh) := ⟨_, rfl⟩
        have hr5 : Row w5 n0 23 noT.cells := by rw [hw5]; exact (R4.out.far (p := ⟨n1, 0, none⟩) (by show n0 ≠ n1; omega) _).far (p := ⟨n1, 1, none⟩) (by show n0 ≠ n1; omega) _
        have ht5 : Row w5 n1 23 (⟨2, lh, pa, qa⟩ : Tgt).cells := by rw [hw5]; exact (T4.out.set 0 (.int .i64 2)).set 1 (.string lh)
        have hm5 : Mods [] w w5 := by rw [hw5]; exact (M4.out.setCell (p := ⟨n1, 0, none⟩) (.inr (by show _ ≤ n1; have := HN0.out; omega)) _).setCell (p := ⟨n1, 1, none⟩) (.inr (by show _ ≤ n1; have := HN0.out; omega)) _
        rw [← hw5]
        clear hw5 t0 t1 tf0 tf1 R4 T4 M4 HR3 HT3 HM3
        have HR5 := Lib.hid hr5
        have HT5 := Lib.hid ht5
        have HM5 := Lib.hid hm5
        clear hr5 ht5 hm5
        obtain ⟨c0, c1, c2, c3, f0, f1, f2, f3⟩ := HR5.out.facts
        obtain ⟨d0, d1, d2, d3, -, -, -, -⟩ := HT5.out.facts
        simp only [noT, noB] at c0 c1 c2 c3 d0 d1 d2 d3
        go_wp2
        exact end_T rfl HR5.out rfl rfl rfl HX.out HM5.out HN0.out
end Go.Proofs.Ytgckpoecdaioiaa
