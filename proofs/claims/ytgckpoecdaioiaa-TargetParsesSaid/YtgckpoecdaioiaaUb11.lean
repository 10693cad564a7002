/- Print of the document. Conditions: a target of at most ten thousand bytes. -/
import Derived.Test.YtgckpoecdaioiaaUa11
import Derived.Test.YtgckpoecdaioiaaTq11
namespace Go.Proofs.Ytgckpoecdaioiaa
open Go.RowKit
set_option linter.unusedVariables false
set_option linter.unusedSimpArgs false

theorem queL_no {q : ByteArray} (h : q.data.toList = []) (p : ByteArray) : (ofL (pathL p.data.toList)).data.toList = pathL p.data.toList ++ queL q.data.toList := by
  rw [ofL_list]; unfold queL; rw [if_pos h]; simp
theorem queL_yes {q : ByteArray} (h : q.data.toList ≠ []) (p : ByteArray) : (ofL (pathL p.data.toList) ++ ⟨#[63]⟩ ++ q).data.toList = pathL p.data.toList ++ queL q.data.toList := by
  rw [ByteArray.data_append, ByteArray.data_append, Array.toList_append, Array.toList_append, ofL_list]; unfold queL; rw [if_neg h]; simp
theorem http_app (h s : ByteArray) : (⟨#[104, 116, 116, 112, 58, 47, 47]⟩ ++ h ++ s : ByteArray).data.toList = httpL ++ h.data.toList ++ s.data.toList := by
  rw [ByteArray.data_append, ByteArray.data_append, Array.toList_append, Array.toList_append]; rfl
theorem list_size {s : ByteArray} {l : List UInt8} (h : s.data.toList = l) : s.size = l.length := by rw [← h]; rfl

set_option maxRecDepth 10000 in
set_option maxHeartbeats 4000000 in
theorem print_r4 (h p q : ByteArray) (hp200 : p.size ≤ 200) (hq200 : q.size ≤ 200) (hh200 : h.size ≤ 200) (w : World) :
    Calls Try.prog 15 #[.agg #[.int .i64 4, .string h, .string p, .string q]] w (PAns w ⟨4, h, p, q⟩) := by
  have b1 : decide (200 < p.size) = false := decide_eq_false (by omega)
  have b2 : decide (200 < q.size) = false := decide_eq_false (by omega)
  have b3 : decide (200 < h.size) = false := decide_eq_false (by omega)
  have hws := (wr_size ⟨4, h, p, q⟩ (by show h.size + p.size + q.size ≤ 1000; omega)).2
  obtain ⟨x, n, hr⟩ : ∃ x n, parT (wrT ⟨4, h, p, q⟩).1 (wrT ⟨4, h, p, q⟩).2 = (x, n) := ⟨_, _, rfl⟩
  have HE := Lib.hid (fun hn => prT_err hr hn)
  have HO := Lib.hid (fun hn => prT_other hr hn)
  have HS := Lib.hid (fun h0 hn => prT_same hr h0 hn)
  have HPT := Lib.hid (fun w => path_r p (by omega) w)
  have hpz : (ofL (pathL p.data.toList)).size ≤ 600 := by rw [ofL_size]; have := (pathL_len p.data.toList).2; rw [len_data] at this; omega
  skip
  have hwr := wr_4 (t := ⟨4, h, p, q⟩) rfl
  rw [hwr] at hr HS hws
  simp only at hr HS hws
  have hsl : ((⟨#[42]⟩ : ByteArray)).data.toList = [42] := rfl
  have hsz : ((⟨#[42]⟩ : ByteArray)).size ≤ 5000 := by rw [list_size hsl]; exact hws
  have HRES := Lib.hid (show ((⟨#[42]⟩ : ByteArray)) = ofL ([42]) by rw [← hsl, ofL_data])
  obtain ⟨sx, hsx⟩ : ∃ sx, sx = ((⟨#[42]⟩ : ByteArray)) := ⟨_, rfl⟩
  rw [← hsx] at hsl hsz HRES
  have HP := Lib.hid (fun w => parse_r ⟨#[79, 80, 84, 73, 79, 78, 83]⟩ sx w (by decide) (by omega))
  unfold TAns at HP
  rw [hsl, show (⟨#[79, 80, 84, 73, 79, 78, 83]⟩ : ByteArray).data.toList = optionsL from rfl, hr] at HP
  have HSX := Lib.hid hsx
  clear hwr hws hsl hsx hr
  by_cases hn : n = 0
  · have e1 := (i_eq hn).2
    have HN := Lib.hid hn
    clear hn
    cases hsame : sameT x ⟨4, h, p, q⟩ with
    | true =>
      have HX := Lib.hid (HS.out HN.out hsame)
      have hxt := (sameT_iff _ _).1 hsame
      subst hxt
      simp only [Tgt.cells] at HP
      rw [← HRES.out] at HX
      clear hsame HE HO HS
      go_enter Try.func15, Try.ntmps15
      go_upto_region 1 with fail
      obtain ⟨w1, hw1⟩ : ∃ w1, w1 = w.alloc (.cells #[.int .i64 4, .string h, .string p, .string q] 23) := ⟨_, rfl⟩
      obtain ⟨n0, hn0⟩ : ∃ n0, n0 = w.heap.size := ⟨_, rfl⟩
      have HB := Lib.hid (show Row w1 n0 23 #[.int .i64 4, .string h, .string p, .string q] by rw [hw1, hn0]; exact Row.new w _ _)
      have HM := Lib.hid (show Mods [] w w1 by rw [hw1]; exact (Mods.refl [] w).alloc _)
      rw [← hw1, ← hn0]
      clear hw1 hn0
      obtain ⟨c0, c1, c2, c3⟩ := HB.out.facts4
      go_upto_region 16 with fail
      rw [← HSX.out]
      go_upto_region 17 with (go_at_call 12; (try rw [← HSX.out]); refine (HP.out _).mono ?_; rintro e w3 ⟨rfl, hm⟩; have M3 := Lib.hid (HM.out.on hm); have R3 := Lib.hid (HB.out.mods hm (by simp)); clear hm)
      obtain ⟨w4, hw4⟩ : ∃ w4, w4 = w3.alloc (.cells #[.int .i64 4, .string h, .string p, .string q] 23) := ⟨_, rfl⟩
      have R4 := Lib.hid (show Row w4 n0 23 #[.int .i64 4, .string h, .string p, .string q] by rw [hw4]; exact R3.out.alloc _)
      have T4 := Lib.hid (show Row w4 w3.heap.size 23 #[.int .i64 4, .string h, .string p, .string q] by rw [hw4]; exact Row.new w3 _ _)
      have M4 := Lib.hid (show Mods [] w w4 by rw [hw4]; exact M3.out.alloc _)
      rw [← hw4]
      clear hw4
      obtain ⟨k0, k1, k2, k3⟩ := R4.out.facts4
      obtain ⟨d0, d1, d2, d3⟩ := T4.out.facts4
      go_wp2
      go_ret2
      exact PAns.mk' HX.out M4.out
    | false =>
      have HX := Lib.hid (HO.out hsame)
      have hns := not_same hsame
      obtain ⟨xf, xh, xp, xq⟩ := x
      simp only [Tgt.cells] at HP
      simp only at hns
      clear hsame HE HO HS
      rcases hns with n1 | ⟨n1, n2⟩ | ⟨n1, n2, n3⟩ | ⟨n1, n2, n3, n4⟩
      · go_enter Try.func15, Try.ntmps15
        go_upto_region 1 with fail
        obtain ⟨w1, hw1⟩ : ∃ w1, w1 = w.alloc (.cells #[.int .i64 4, .string h, .string p, .string q] 23) := ⟨_, rfl⟩
        obtain ⟨n0, hn0⟩ : ∃ n0, n0 = w.heap.size := ⟨_, rfl⟩
        have HB := Lib.hid (show Row w1 n0 23 #[.int .i64 4, .string h, .string p, .string q] by rw [hw1, hn0]; exact Row.new w _ _)
        have HM := Lib.hid (show Mods [] w w1 by rw [hw1]; exact (Mods.refl [] w).alloc _)
        rw [← hw1, ← hn0]
        clear hw1 hn0
        obtain ⟨c0, c1, c2, c3⟩ := HB.out.facts4
        go_upto_region 16 with fail
        rw [← HSX.out]
        go_upto_region 17 with (go_at_call 12; (try rw [← HSX.out]); refine (HP.out _).mono ?_; rintro e w3 ⟨rfl, hm⟩; have M3 := Lib.hid (HM.out.on hm); have R3 := Lib.hid (HB.out.mods hm (by simp)); clear hm)
        obtain ⟨w4, hw4⟩ : ∃ w4, w4 = w3.alloc (.cells #[.int .i64 xf, .string xh, .string xp, .string xq] 23) := ⟨_, rfl⟩
        have R4 := Lib.hid (show Row w4 n0 23 #[.int .i64 4, .string h, .string p, .string q] by rw [hw4]; exact R3.out.alloc _)
        have T4 := Lib.hid (show Row w4 w3.heap.size 23 #[.int .i64 xf, .string xh, .string xp, .string xq] by rw [hw4]; exact Row.new w3 _ _)
        have M4 := Lib.hid (show Mods [] w w4 by rw [hw4]; exact M3.out.alloc _)
        rw [← hw4]
        clear hw4
        obtain ⟨k0, k1, k2, k3⟩ := R4.out.facts4
        obtain ⟨d0, d1, d2, d3⟩ := T4.out.facts4
        go_wp2
        go_ret2
        exact PAns.mk' HX.out M4.out
      · go_enter Try.func15, Try.ntmps15
        go_upto_region 1 with fail
        obtain ⟨w1, hw1⟩ : ∃ w1, w1 = w.alloc (.cells #[.int .i64 4, .string h, .string p, .string q] 23) := ⟨_, rfl⟩
        obtain ⟨n0, hn0⟩ : ∃ n0, n0 = w.heap.size := ⟨_, rfl⟩
        have HB := Lib.hid (show Row w1 n0 23 #[.int .i64 4, .string h, .string p, .string q] by rw [hw1, hn0]; exact Row.new w _ _)
        have HM := Lib.hid (show Mods [] w w1 by rw [hw1]; exact (Mods.refl [] w).alloc _)
        rw [← hw1, ← hn0]
        clear hw1 hn0
        obtain ⟨c0, c1, c2, c3⟩ := HB.out.facts4
        go_upto_region 16 with fail
        rw [← HSX.out]
        go_upto_region 17 with (go_at_call 12; (try rw [← HSX.out]); refine (HP.out _).mono ?_; rintro e w3 ⟨rfl, hm⟩; have M3 := Lib.hid (HM.out.on hm); have R3 := Lib.hid (HB.out.mods hm (by simp)); clear hm)
        obtain ⟨w4, hw4⟩ : ∃ w4, w4 = w3.alloc (.cells #[.int .i64 xf, .string xh, .string xp, .string xq] 23) := ⟨_, rfl⟩
        have R4 := Lib.hid (show Row w4 n0 23 #[.int .i64 4, .string h, .string p, .string q] by rw [hw4]; exact R3.out.alloc _)
        have T4 := Lib.hid (show Row w4 w3.heap.size 23 #[.int .i64 xf, .string xh, .string xp, .string xq] by rw [hw4]; exact Row.new w3 _ _)
        have M4 := Lib.hid (show Mods [] w w4 by rw [hw4]; exact M3.out.alloc _)
        rw [← hw4]
        clear hw4
        obtain ⟨k0, k1, k2, k3⟩ := R4.out.facts4
        obtain ⟨d0, d1, d2, d3⟩ := T4.out.facts4
        go_wp2
        go_ret2
        exact PAns.mk' HX.out M4.out
      · go_enter Try.func15, Try.ntmps15
        go_upto_region 1 with fail
        obtain ⟨w1, hw1⟩ : ∃ w1, w1 = w.alloc (.cells #[.int .i64 4, .string h, .string p, .string q] 23) := ⟨_, rfl⟩
        obtain ⟨n0, hn0⟩ : ∃ n0, n0 = w.heap.size := ⟨_, rfl⟩
        have HB := Lib.hid (show Row w1 n0 23 #[.int .i64 4, .string h, .string p, .string q] by rw [hw1, hn0]; exact Row.new w _ _)
        have HM := Lib.hid (show Mods [] w w1 by rw [hw1]; exact (Mods.refl [] w).alloc _)
        rw [← hw1, ← hn0]
        clear hw1 hn0
        obtain ⟨c0, c1, c2, c3⟩ := HB.out.facts4
        go_upto_region 16 with fail
        rw [← HSX.out]
        go_upto_region 17 with (go_at_call 12; (try rw [← HSX.out]); refine (HP.out _).mono ?_; rintro e w3 ⟨rfl, hm⟩; have M3 := Lib.hid (HM.out.on hm); have R3 := Lib.hid (HB.out.mods hm (by simp)); clear hm)
        obtain ⟨w4, hw4⟩ : ∃ w4, w4 = w3.alloc (.cells #[.int .i64 xf, .string xh, .string xp, .string xq] 23) := ⟨_, rfl⟩
        have R4 := Lib.hid (show Row w4 n0 23 #[.int .i64 4, .string h, .string p, .string q] by rw [hw4]; exact R3.out.alloc _)
        have T4 := Lib.hid (show Row w4 w3.heap.size 23 #[.int .i64 xf, .string xh, .string xp, .string xq] by rw [hw4]; exact Row.new w3 _ _)
        have M4 := Lib.hid (show Mods [] w w4 by rw [hw4]; exact M3.out.alloc _)
        rw [← hw4]
        clear hw4
        obtain ⟨k0, k1, k2, k3⟩ := R4.out.facts4
        obtain ⟨d0, d1, d2, d3⟩ := T4.out.facts4
        go_wp2
        go_ret2
        exact PAns.mk' HX.out M4.out
      · go_enter Try.func15, Try.ntmps15
        go_upto_region 1 with fail
        obtain ⟨w1, hw1⟩ : ∃ w1, w1 = w.alloc (.cells #[.int .i64 4, .string h, .string p, .string q] 23) := ⟨_, rfl⟩
        obtain ⟨n0, hn0⟩ : ∃ n0, n0 = w.heap.size := ⟨_, rfl⟩
        have HB := Lib.hid (show Row w1 n0 23 #[.int .i64 4, .string h, .string p, .string q] by rw [hw1, hn0]; exact Row.new w _ _)
        have HM := Lib.hid (show Mods [] w w1 by rw [hw1]; exact (Mods.refl [] w).alloc _)
        rw [← hw1, ← hn0]
        clear hw1 hn0
        obtain ⟨c0, c1, c2, c3⟩ := HB.out.facts4
        go_upto_region 16 with fail
        rw [← HSX.out]
        go_upto_region 17 with (go_at_call 12; (try rw [← HSX.out]); refine (HP.out _).mono ?_; rintro e w3 ⟨rfl, hm⟩; have M3 := Lib.hid (HM.out.on hm); have R3 := Lib.hid (HB.out.mods hm (by simp)); clear hm)
        obtain ⟨w4, hw4⟩ : ∃ w4, w4 = w3.alloc (.cells #[.int .i64 xf, .string xh, .string xp, .string xq] 23) := ⟨_, rfl⟩
        have R4 := Lib.hid (show Row w4 n0 23 #[.int .i64 4, .string h, .string p, .string q] by rw [hw4]; exact R3.out.alloc _)
        have T4 := Lib.hid (show Row w4 w3.heap.size 23 #[.int .i64 xf, .string xh, .string xp, .string xq] by rw [hw4]; exact Row.new w3 _ _)
        have M4 := Lib.hid (show Mods [] w w4 by rw [hw4]; exact M3.out.alloc _)
        rw [← hw4]
        clear hw4
        obtain ⟨k0, k1, k2, k3⟩ := R4.out.facts4
        obtain ⟨d0, d1, d2, d3⟩ := T4.out.facts4
        go_wp2
        go_ret2
        exact PAns.mk' HX.out M4.out
  · have e1 := (i_ne hn).2
    have HX := Lib.hid (HE.out hn)
    obtain ⟨xf, xh, xp, xq⟩ := x
    simp only [Tgt.cells] at HP
    clear hn HE HO HS
    go_enter Try.func15, Try.ntmps15
    go_upto_region 1 with fail
    obtain ⟨w1, hw1⟩ : ∃ w1, w1 = w.alloc (.cells #[.int .i64 4, .string h, .string p, .string q] 23) := ⟨_, rfl⟩
    obtain ⟨n0, hn0⟩ : ∃ n0, n0 = w.heap.size := ⟨_, rfl⟩
    have HB := Lib.hid (show Row w1 n0 23 #[.int .i64 4, .string h, .string p, .string q] by rw [hw1, hn0]; exact Row.new w _ _)
    have HM := Lib.hid (show Mods [] w w1 by rw [hw1]; exact (Mods.refl [] w).alloc _)
    rw [← hw1, ← hn0]
    clear hw1 hn0
    obtain ⟨c0, c1, c2, c3⟩ := HB.out.facts4
    go_upto_region 16 with fail
    rw [← HSX.out]
    go_upto_region 17 with (go_at_call 12; (try rw [← HSX.out]); refine (HP.out _).mono ?_; rintro e w3 ⟨rfl, hm⟩; have M3 := Lib.hid (HM.out.on hm); have R3 := Lib.hid (HB.out.mods hm (by simp)); clear hm)
    obtain ⟨w4, hw4⟩ : ∃ w4, w4 = w3.alloc (.cells #[.int .i64 xf, .string xh, .string xp, .string xq] 23) := ⟨_, rfl⟩
    have R4 := Lib.hid (show Row w4 n0 23 #[.int .i64 4, .string h, .string p, .string q] by rw [hw4]; exact R3.out.alloc _)
    have T4 := Lib.hid (show Row w4 w3.heap.size 23 #[.int .i64 xf, .string xh, .string xp, .string xq] by rw [hw4]; exact Row.new w3 _ _)
    have M4 := Lib.hid (show Mods [] w w4 by rw [hw4]; exact M3.out.alloc _)
    rw [← hw4]
    clear hw4
    obtain ⟨k0, k1, k2, k3⟩ := R4.out.facts4
    obtain ⟨d0, d1, d2, d3⟩ := T4.out.facts4
    go_wp2
    go_ret2
    exact PAns.mk' HX.out M4.out
set_option maxRecDepth 10000 in
set_option maxHeartbeats 4000000 in
theorem print_r3 (h p q : ByteArray) (hp200 : p.size ≤ 200) (hq200 : q.size ≤ 200) (hh200 : h.size ≤ 200) (w : World) :
    Calls Try.prog 15 #[.agg #[.int .i64 3, .string h, .string p, .string q]] w (PAns w ⟨3, h, p, q⟩) := by
  have b1 : decide (200 < p.size) = false := decide_eq_false (by omega)
  have b2 : decide (200 < q.size) = false := decide_eq_false (by omega)
  have b3 : decide (200 < h.size) = false := decide_eq_false (by omega)
  have hws := (wr_size ⟨3, h, p, q⟩ (by show h.size + p.size + q.size ≤ 1000; omega)).2
  obtain ⟨x, n, hr⟩ : ∃ x n, parT (wrT ⟨3, h, p, q⟩).1 (wrT ⟨3, h, p, q⟩).2 = (x, n) := ⟨_, _, rfl⟩
  have HE := Lib.hid (fun hn => prT_err hr hn)
  have HO := Lib.hid (fun hn => prT_other hr hn)
  have HS := Lib.hid (fun h0 hn => prT_same hr h0 hn)
  have HPT := Lib.hid (fun w => path_r p (by omega) w)
  have hpz : (ofL (pathL p.data.toList)).size ≤ 600 := by rw [ofL_size]; have := (pathL_len p.data.toList).2; rw [len_data] at this; omega
  skip
  have hwr := wr_3 (t := ⟨3, h, p, q⟩) rfl
  rw [hwr] at hr HS hws
  simp only at hr HS hws
  have HRES := Lib.hid (show h = ofL h.data.toList from (ofL_data h).symm)
  have HP := Lib.hid (fun w => parse_r ⟨#[67, 79, 78, 78, 69, 67, 84]⟩ h w (by decide) (by omega))
  unfold TAns at HP
  rw [show (⟨#[67, 79, 78, 78, 69, 67, 84]⟩ : ByteArray).data.toList = connectL from rfl, hr] at HP
  clear hwr hws hr
  by_cases hn : n = 0
  · have e1 := (i_eq hn).2
    have HN := Lib.hid hn
    clear hn
    cases hsame : sameT x ⟨3, h, p, q⟩ with
    | true =>
      have HX := Lib.hid (HS.out HN.out hsame)
      have hxt := (sameT_iff _ _).1 hsame
      subst hxt
      simp only [Tgt.cells] at HP
      rw [← HRES.out] at HX
      clear hsame HE HO HS
      go_enter Try.func15, Try.ntmps15
      go_upto_region 1 with fail
      obtain ⟨w1, hw1⟩ : ∃ w1, w1 = w.alloc (.cells #[.int .i64 3, .string h, .string p, .string q] 23) := ⟨_, rfl⟩
      obtain ⟨n0, hn0⟩ : ∃ n0, n0 = w.heap.size := ⟨_, rfl⟩
      have HB := Lib.hid (show Row w1 n0 23 #[.int .i64 3, .string h, .string p, .string q] by rw [hw1, hn0]; exact Row.new w _ _)
      have HM := Lib.hid (show Mods [] w w1 by rw [hw1]; exact (Mods.refl [] w).alloc _)
      rw [← hw1, ← hn0]
      clear hw1 hn0
      obtain ⟨c0, c1, c2, c3⟩ := HB.out.facts4
      go_upto_region 17 with (go_at_call 12; refine (HP.out _).mono ?_; rintro e w3 ⟨rfl, hm⟩; have M3 := Lib.hid (HM.out.on hm); have R3 := Lib.hid (HB.out.mods hm (by simp)); clear hm)
      obtain ⟨w4, hw4⟩ : ∃ w4, w4 = w3.alloc (.cells #[.int .i64 3, .string h, .string p, .string q] 23) := ⟨_, rfl⟩
      have R4 := Lib.hid (show Row w4 n0 23 #[.int .i64 3, .string h, .string p, .string q] by rw [hw4]; exact R3.out.alloc _)
      have T4 := Lib.hid (show Row w4 w3.heap.size 23 #[.int .i64 3, .string h, .string p, .string q] by rw [hw4]; exact Row.new w3 _ _)
      have M4 := Lib.hid (show Mods [] w w4 by rw [hw4]; exact M3.out.alloc _)
      rw [← hw4]
      clear hw4
      obtain ⟨k0, k1, k2, k3⟩ := R4.out.facts4
      obtain ⟨d0, d1, d2, d3⟩ := T4.out.facts4
      go_wp2
      go_ret2
      exact PAns.mk' HX.out M4.out
    | false =>
      have HX := Lib.hid (HO.out hsame)
      have hns := not_same hsame
      obtain ⟨xf, xh, xp, xq⟩ := x
      simp only [Tgt.cells] at HP
      simp only at hns
      clear hsame HE HO HS
      rcases hns with n1 | ⟨n1, n2⟩ | ⟨n1, n2, n3⟩ | ⟨n1, n2, n3, n4⟩
      · go_enter Try.func15, Try.ntmps15
        go_upto_region 1 with fail
        obtain ⟨w1, hw1⟩ : ∃ w1, w1 = w.alloc (.cells #[.int .i64 3, .string h, .string p, .string q] 23) := ⟨_, rfl⟩
        obtain ⟨n0, hn0⟩ : ∃ n0, n0 = w.heap.size := ⟨_, rfl⟩
        have HB := Lib.hid (show Row w1 n0 23 #[.int .i64 3, .string h, .string p, .string q] by rw [hw1, hn0]; exact Row.new w _ _)
        have HM := Lib.hid (show Mods [] w w1 by rw [hw1]; exact (Mods.refl [] w).alloc _)
        rw [← hw1, ← hn0]
        clear hw1 hn0
        obtain ⟨c0, c1, c2, c3⟩ := HB.out.facts4
        go_upto_region 17 with (go_at_call 12; refine (HP.out _).mono ?_; rintro e w3 ⟨rfl, hm⟩; have M3 := Lib.hid (HM.out.on hm); have R3 := Lib.hid (HB.out.mods hm (by simp)); clear hm)
        obtain ⟨w4, hw4⟩ : ∃ w4, w4 = w3.alloc (.cells #[.int .i64 xf, .string xh, .string xp, .string xq] 23) := ⟨_, rfl⟩
        have R4 := Lib.hid (show Row w4 n0 23 #[.int .i64 3, .string h, .string p, .string q] by rw [hw4]; exact R3.out.alloc _)
        have T4 := Lib.hid (show Row w4 w3.heap.size 23 #[.int .i64 xf, .string xh, .string xp, .string xq] by rw [hw4]; exact Row.new w3 _ _)
        have M4 := Lib.hid (show Mods [] w w4 by rw [hw4]; exact M3.out.alloc _)
        rw [← hw4]
        clear hw4
        obtain ⟨k0, k1, k2, k3⟩ := R4.out.facts4
        obtain ⟨d0, d1, d2, d3⟩ := T4.out.facts4
        go_wp2
        go_ret2
        exact PAns.mk' HX.out M4.out
      · go_enter Try.func15, Try.ntmps15
        go_upto_region 1 with fail
        obtain ⟨w1, hw1⟩ : ∃ w1, w1 = w.alloc (.cells #[.int .i64 3, .string h, .string p, .string q] 23) := ⟨_, rfl⟩
        obtain ⟨n0, hn0⟩ : ∃ n0, n0 = w.heap.size := ⟨_, rfl⟩
        have HB := Lib.hid (show Row w1 n0 23 #[.int .i64 3, .string h, .string p, .string q] by rw [hw1, hn0]; exact Row.new w _ _)
        have HM := Lib.hid (show Mods [] w w1 by rw [hw1]; exact (Mods.refl [] w).alloc _)
        rw [← hw1, ← hn0]
        clear hw1 hn0
        obtain ⟨c0, c1, c2, c3⟩ := HB.out.facts4
        go_upto_region 17 with (go_at_call 12; refine (HP.out _).mono ?_; rintro e w3 ⟨rfl, hm⟩; have M3 := Lib.hid (HM.out.on hm); have R3 := Lib.hid (HB.out.mods hm (by simp)); clear hm)
        obtain ⟨w4, hw4⟩ : ∃ w4, w4 = w3.alloc (.cells #[.int .i64 xf, .string xh, .string xp, .string xq] 23) := ⟨_, rfl⟩
        have R4 := Lib.hid (show Row w4 n0 23 #[.int .i64 3, .string h, .string p, .string q] by rw [hw4]; exact R3.out.alloc _)
        have T4 := Lib.hid (show Row w4 w3.heap.size 23 #[.int .i64 xf, .string xh, .string xp, .string xq] by rw [hw4]; exact Row.new w3 _ _)
        have M4 := Lib.hid (show Mods [] w w4 by rw [hw4]; exact M3.out.alloc _)
        rw [← hw4]
        clear hw4
        obtain ⟨k0, k1, k2, k3⟩ := R4.out.facts4
        obtain ⟨d0, d1, d2, d3⟩ := T4.out.facts4
        go_wp2
        go_ret2
        exact PAns.mk' HX.out M4.out
      · go_enter Try.func15, Try.ntmps15
        go_upto_region 1 with fail
        obtain ⟨w1, hw1⟩ : ∃ w1, w1 = w.alloc (.cells #[.int .i64 3, .string h, .string p, .string q] 23) := ⟨_, rfl⟩
        obtain ⟨n0, hn0⟩ : ∃ n0, n0 = w.heap.size := ⟨_, rfl⟩
        have HB := Lib.hid (show Row w1 n0 23 #[.int .i64 3, .string h, .string p, .string q] by rw [hw1, hn0]; exact Row.new w _ _)
        have HM := Lib.hid (show Mods [] w w1 by rw [hw1]; exact (Mods.refl [] w).alloc _)
        rw [← hw1, ← hn0]
        clear hw1 hn0
        obtain ⟨c0, c1, c2, c3⟩ := HB.out.facts4
        go_upto_region 17 with (go_at_call 12; refine (HP.out _).mono ?_; rintro e w3 ⟨rfl, hm⟩; have M3 := Lib.hid (HM.out.on hm); have R3 := Lib.hid (HB.out.mods hm (by simp)); clear hm)
        obtain ⟨w4, hw4⟩ : ∃ w4, w4 = w3.alloc (.cells #[.int .i64 xf, .string xh, .string xp, .string xq] 23) := ⟨_, rfl⟩
        have R4 := Lib.hid (show Row w4 n0 23 #[.int .i64 3, .string h, .string p, .string q] by rw [hw4]; exact R3.out.alloc _)
        have T4 := Lib.hid (show Row w4 w3.heap.size 23 #[.int .i64 xf, .string xh, .string xp, .string xq] by rw [hw4]; exact Row.new w3 _ _)
        have M4 := Lib.hid (show Mods [] w w4 by rw [hw4]; exact M3.out.alloc _)
        rw [← hw4]
        clear hw4
        obtain ⟨k0, k1, k2, k3⟩ := R4.out.facts4
        obtain ⟨d0, d1, d2, d3⟩ := T4.out.facts4
        go_wp2
        go_ret2
        exact PAns.mk' HX.out M4.out
      · go_enter Try.func15, Try.ntmps15
        go_upto_region 1 with fail
        obtain ⟨w1, hw1⟩ : ∃ w1, w1 = w.alloc (.cells #[.int .i64 3, .string h, .string p, .string q] 23) := ⟨_, rfl⟩
        obtain ⟨n0, hn0⟩ : ∃ n0, n0 = w.heap.size := ⟨_, rfl⟩
        have HB := Lib.hid (show Row w1 n0 23 #[.int .i64 3, .string h, .string p, .string q] by rw [hw1, hn0]; exact Row.new w _ _)
        have HM := Lib.hid (show Mods [] w w1 by rw [hw1]; exact (Mods.refl [] w).alloc _)
        rw [← hw1, ← hn0]
        clear hw1 hn0
        obtain ⟨c0, c1, c2, c3⟩ := HB.out.facts4
        go_upto_region 17 with (go_at_call 12; refine (HP.out _).mono ?_; rintro e w3 ⟨rfl, hm⟩; have M3 := Lib.hid (HM.out.on hm); have R3 := Lib.hid (HB.out.mods hm (by simp)); clear hm)
        obtain ⟨w4, hw4⟩ : ∃ w4, w4 = w3.alloc (.cells #[.int .i64 xf, .string xh, .string xp, .string xq] 23) := ⟨_, rfl⟩
        have R4 := Lib.hid (show Row w4 n0 23 #[.int .i64 3, .string h, .string p, .string q] by rw [hw4]; exact R3.out.alloc _)
        have T4 := Lib.hid (show Row w4 w3.heap.size 23 #[.int .i64 xf, .string xh, .string xp, .string xq] by rw [hw4]; exact Row.new w3 _ _)
        have M4 := Lib.hid (show Mods [] w w4 by rw [hw4]; exact M3.out.alloc _)
        rw [← hw4]
        clear hw4
        obtain ⟨k0, k1, k2, k3⟩ := R4.out.facts4
        obtain ⟨d0, d1, d2, d3⟩ := T4.out.facts4
        go_wp2
        go_ret2
        exact PAns.mk' HX.out M4.out
  · have e1 := (i_ne hn).2
    have HX := Lib.hid (HE.out hn)
    obtain ⟨xf, xh, xp, xq⟩ := x
    simp only [Tgt.cells] at HP
    clear hn HE HO HS
    go_enter Try.func15, Try.ntmps15
    go_upto_region 1 with fail
    obtain ⟨w1, hw1⟩ : ∃ w1, w1 = w.alloc (.cells #[.int .i64 3, .string h, .string p, .string q] 23) := ⟨_, rfl⟩
    obtain ⟨n0, hn0⟩ : ∃ n0, n0 = w.heap.size := ⟨_, rfl⟩
    have HB := Lib.hid (show Row w1 n0 23 #[.int .i64 3, .string h, .string p, .string q] by rw [hw1, hn0]; exact Row.new w _ _)
    have HM := Lib.hid (show Mods [] w w1 by rw [hw1]; exact (Mods.refl [] w).alloc _)
    rw [← hw1, ← hn0]
    clear hw1 hn0
    obtain ⟨c0, c1, c2, c3⟩ := HB.out.facts4
    go_upto_region 17 with (go_at_call 12; refine (HP.out _).mono ?_; rintro e w3 ⟨rfl, hm⟩; have M3 := Lib.hid (HM.out.on hm); have R3 := Lib.hid (HB.out.mods hm (by simp)); clear hm)
    obtain ⟨w4, hw4⟩ : ∃ w4, w4 = w3.alloc (.cells #[.int .i64 xf, .string xh, .string xp, .string xq] 23) := ⟨_, rfl⟩
    have R4 := Lib.hid (show Row w4 n0 23 #[.int .i64 3, .string h, .string p, .string q] by rw [hw4]; exact R3.out.alloc _)
    have T4 := Lib.hid (show Row w4 w3.heap.size 23 #[.int .i64 xf, .string xh, .string xp, .string xq] by rw [hw4]; exact Row.new w3 _ _)
    have M4 := Lib.hid (show Mods [] w w4 by rw [hw4]; exact M3.out.alloc _)
    rw [← hw4]
    clear hw4
    obtain ⟨k0, k1, k2, k3⟩ := R4.out.facts4
    obtain ⟨d0, d1, d2, d3⟩ := T4.out.facts4
    go_wp2
    go_ret2
    exact PAns.mk' HX.out M4.out
set_option maxRecDepth 10000 in
set_option maxHeartbeats 4000000 in
theorem print_r0 (f : Int) (h p q : ByteArray) (hp200 : p.size ≤ 200) (hq200 : q.size ≤ 200) (hh200 : h.size ≤ 200) (h1 : f ≠ 1) (h2 : f ≠ 2) (h3 : f ≠ 3) (h4 : f ≠ 4) (w : World) :
    Calls Try.prog 15 #[.agg #[.int .i64 f, .string h, .string p, .string q]] w (PAns w ⟨f, h, p, q⟩) := by
  have b1 : decide (200 < p.size) = false := decide_eq_false (by omega)
  have b2 : decide (200 < q.size) = false := decide_eq_false (by omega)
  have b3 : decide (200 < h.size) = false := decide_eq_false (by omega)
  have hws := (wr_size ⟨f, h, p, q⟩ (by show h.size + p.size + q.size ≤ 1000; omega)).2
  obtain ⟨x, n, hr⟩ : ∃ x n, parT (wrT ⟨f, h, p, q⟩).1 (wrT ⟨f, h, p, q⟩).2 = (x, n) := ⟨_, _, rfl⟩
  have HE := Lib.hid (fun hn => prT_err hr hn)
  have HO := Lib.hid (fun hn => prT_other hr hn)
  have HS := Lib.hid (fun h0 hn => prT_same hr h0 hn)
  have HPT := Lib.hid (fun w => path_r p (by omega) w)
  have hpz : (ofL (pathL p.data.toList)).size ≤ 600 := by rw [ofL_size]; have := (pathL_len p.data.toList).2; rw [len_data] at this; omega
  have m4 := (i_ne h4).1
  have m3 := (i_ne h3).1
  have m1 := (i_ne h1).1
  have m2 := (i_ne h2).1
  have hff := wr_0 (t := ⟨f, h, p, q⟩) h1 h2 h3 h4
  clear h1 h2 h3 h4
  have hwr := hff
  rw [hwr] at hr HS hws
  simp only at hr HS hws
  have hsl : ((⟨#[]⟩ : ByteArray)).data.toList = [] := rfl
  have hsz : ((⟨#[]⟩ : ByteArray)).size ≤ 5000 := by rw [list_size hsl]; exact hws
  have HRES := Lib.hid (show ((⟨#[]⟩ : ByteArray)) = ofL ([]) by rw [← hsl, ofL_data])
  obtain ⟨sx, hsx⟩ : ∃ sx, sx = ((⟨#[]⟩ : ByteArray)) := ⟨_, rfl⟩
  rw [← hsx] at hsl hsz HRES
  have HP := Lib.hid (fun w => parse_r ⟨#[71, 69, 84]⟩ sx w (by decide) (by omega))
  unfold TAns at HP
  rw [hsl, show (⟨#[71, 69, 84]⟩ : ByteArray).data.toList = getL from rfl, hr] at HP
  have HSX := Lib.hid hsx
  clear hff hwr hws hsl hsx hr
  by_cases hn : n = 0
  · have e1 := (i_eq hn).2
    have HN := Lib.hid hn
    clear hn
    cases hsame : sameT x ⟨f, h, p, q⟩ with
    | true =>
      have HX := Lib.hid (HS.out HN.out hsame)
      have hxt := (sameT_iff _ _).1 hsame
      subst hxt
      simp only [Tgt.cells] at HP
      rw [← HRES.out] at HX
      clear hsame HE HO HS
      go_enter Try.func15, Try.ntmps15
      go_upto_region 1 with fail
      obtain ⟨w1, hw1⟩ : ∃ w1, w1 = w.alloc (.cells #[.int .i64 f, .string h, .string p, .string q] 23) := ⟨_, rfl⟩
      obtain ⟨n0, hn0⟩ : ∃ n0, n0 = w.heap.size := ⟨_, rfl⟩
      have HB := Lib.hid (show Row w1 n0 23 #[.int .i64 f, .string h, .string p, .string q] by rw [hw1, hn0]; exact Row.new w _ _)
      have HM := Lib.hid (show Mods [] w w1 by rw [hw1]; exact (Mods.refl [] w).alloc _)
      rw [← hw1, ← hn0]
      clear hw1 hn0
      obtain ⟨c0, c1, c2, c3⟩ := HB.out.facts4
      go_upto_region 16 with fail
      rw [← HSX.out]
      go_upto_region 17 with (go_at_call 12; (try rw [← HSX.out]); refine (HP.out _).mono ?_; rintro e w3 ⟨rfl, hm⟩; have M3 := Lib.hid (HM.out.on hm); have R3 := Lib.hid (HB.out.mods hm (by simp)); clear hm)
      obtain ⟨w4, hw4⟩ : ∃ w4, w4 = w3.alloc (.cells #[.int .i64 f, .string h, .string p, .string q] 23) := ⟨_, rfl⟩
      have R4 := Lib.hid (show Row w4 n0 23 #[.int .i64 f, .string h, .string p, .string q] by rw [hw4]; exact R3.out.alloc _)
      have T4 := Lib.hid (show Row w4 w3.heap.size 23 #[.int .i64 f, .string h, .string p, .string q] by rw [hw4]; exact Row.new w3 _ _)
      have M4 := Lib.hid (show Mods [] w w4 by rw [hw4]; exact M3.out.alloc _)
      rw [← hw4]
      clear hw4
      obtain ⟨k0, k1, k2, k3⟩ := R4.out.facts4
      obtain ⟨d0, d1, d2, d3⟩ := T4.out.facts4
      go_wp2
      go_ret2
      exact PAns.mk' HX.out M4.out
    | false =>
      have HX := Lib.hid (HO.out hsame)
      have hns := not_same hsame
      obtain ⟨xf, xh, xp, xq⟩ := x
      simp only [Tgt.cells] at HP
      simp only at hns
      clear hsame HE HO HS
      rcases hns with n1 | ⟨n1, n2⟩ | ⟨n1, n2, n3⟩ | ⟨n1, n2, n3, n4⟩
      · go_enter Try.func15, Try.ntmps15
        go_upto_region 1 with fail
        obtain ⟨w1, hw1⟩ : ∃ w1, w1 = w.alloc (.cells #[.int .i64 f, .string h, .string p, .string q] 23) := ⟨_, rfl⟩
        obtain ⟨n0, hn0⟩ : ∃ n0, n0 = w.heap.size := ⟨_, rfl⟩
        have HB := Lib.hid (show Row w1 n0 23 #[.int .i64 f, .string h, .string p, .string q] by rw [hw1, hn0]; exact Row.new w _ _)
        have HM := Lib.hid (show Mods [] w w1 by rw [hw1]; exact (Mods.refl [] w).alloc _)
        rw [← hw1, ← hn0]
        clear hw1 hn0
        obtain ⟨c0, c1, c2, c3⟩ := HB.out.facts4
        go_upto_region 16 with fail
        rw [← HSX.out]
        go_upto_region 17 with (go_at_call 12; (try rw [← HSX.out]); refine (HP.out _).mono ?_; rintro e w3 ⟨rfl, hm⟩; have M3 := Lib.hid (HM.out.on hm); have R3 := Lib.hid (HB.out.mods hm (by simp)); clear hm)
        obtain ⟨w4, hw4⟩ : ∃ w4, w4 = w3.alloc (.cells #[.int .i64 xf, .string xh, .string xp, .string xq] 23) := ⟨_, rfl⟩
        have R4 := Lib.hid (show Row w4 n0 23 #[.int .i64 f, .string h, .string p, .string q] by rw [hw4]; exact R3.out.alloc _)
        have T4 := Lib.hid (show Row w4 w3.heap.size 23 #[.int .i64 xf, .string xh, .string xp, .string xq] by rw [hw4]; exact Row.new w3 _ _)
        have M4 := Lib.hid (show Mods [] w w4 by rw [hw4]; exact M3.out.alloc _)
        rw [← hw4]
        clear hw4
        obtain ⟨k0, k1, k2, k3⟩ := R4.out.facts4
        obtain ⟨d0, d1, d2, d3⟩ := T4.out.facts4
        go_wp2
        go_ret2
        exact PAns.mk' HX.out M4.out
      · go_enter Try.func15, Try.ntmps15
        go_upto_region 1 with fail
        obtain ⟨w1, hw1⟩ : ∃ w1, w1 = w.alloc (.cells #[.int .i64 f, .string h, .string p, .string q] 23) := ⟨_, rfl⟩
        obtain ⟨n0, hn0⟩ : ∃ n0, n0 = w.heap.size := ⟨_, rfl⟩
        have HB := Lib.hid (show Row w1 n0 23 #[.int .i64 f, .string h, .string p, .string q] by rw [hw1, hn0]; exact Row.new w _ _)
        have HM := Lib.hid (show Mods [] w w1 by rw [hw1]; exact (Mods.refl [] w).alloc _)
        rw [← hw1, ← hn0]
        clear hw1 hn0
        obtain ⟨c0, c1, c2, c3⟩ := HB.out.facts4
        go_upto_region 16 with fail
        rw [← HSX.out]
        go_upto_region 17 with (go_at_call 12; (try rw [← HSX.out]); refine (HP.out _).mono ?_; rintro e w3 ⟨rfl, hm⟩; have M3 := Lib.hid (HM.out.on hm); have R3 := Lib.hid (HB.out.mods hm (by simp)); clear hm)
        obtain ⟨w4, hw4⟩ : ∃ w4, w4 = w3.alloc (.cells #[.int .i64 xf, .string xh, .string xp, .string xq] 23) := ⟨_, rfl⟩
        have R4 := Lib.hid (show Row w4 n0 23 #[.int .i64 f, .string h, .string p, .string q] by rw [hw4]; exact R3.out.alloc _)
        have T4 := Lib.hid (show Row w4 w3.heap.size 23 #[.int .i64 xf, .string xh, .string xp, .string xq] by rw [hw4]; exact Row.new w3 _ _)
        have M4 := Lib.hid (show Mods [] w w4 by rw [hw4]; exact M3.out.alloc _)
        rw [← hw4]
        clear hw4
        obtain ⟨k0, k1, k2, k3⟩ := R4.out.facts4
        obtain ⟨d0, d1, d2, d3⟩ := T4.out.facts4
        go_wp2
        go_ret2
        exact PAns.mk' HX.out M4.out
      · go_enter Try.func15, Try.ntmps15
        go_upto_region 1 with fail
        obtain ⟨w1, hw1⟩ : ∃ w1, w1 = w.alloc (.cells #[.int .i64 f, .string h, .string p, .string q] 23) := ⟨_, rfl⟩
        obtain ⟨n0, hn0⟩ : ∃ n0, n0 = w.heap.size := ⟨_, rfl⟩
        have HB := Lib.hid (show Row w1 n0 23 #[.int .i64 f, .string h, .string p, .string q] by rw [hw1, hn0]; exact Row.new w _ _)
        have HM := Lib.hid (show Mods [] w w1 by rw [hw1]; exact (Mods.refl [] w).alloc _)
        rw [← hw1, ← hn0]
        clear hw1 hn0
        obtain ⟨c0, c1, c2, c3⟩ := HB.out.facts4
        go_upto_region 16 with fail
        rw [← HSX.out]
        go_upto_region 17 with (go_at_call 12; (try rw [← HSX.out]); refine (HP.out _).mono ?_; rintro e w3 ⟨rfl, hm⟩; have M3 := Lib.hid (HM.out.on hm); have R3 := Lib.hid (HB.out.mods hm (by simp)); clear hm)
        obtain ⟨w4, hw4⟩ : ∃ w4, w4 = w3.alloc (.cells #[.int .i64 xf, .string xh, .string xp, .string xq] 23) := ⟨_, rfl⟩
        have R4 := Lib.hid (show Row w4 n0 23 #[.int .i64 f, .string h, .string p, .string q] by rw [hw4]; exact R3.out.alloc _)
        have T4 := Lib.hid (show Row w4 w3.heap.size 23 #[.int .i64 xf, .string xh, .string xp, .string xq] by rw [hw4]; exact Row.new w3 _ _)
        have M4 := Lib.hid (show Mods [] w w4 by rw [hw4]; exact M3.out.alloc _)
        rw [← hw4]
        clear hw4
        obtain ⟨k0, k1, k2, k3⟩ := R4.out.facts4
        obtain ⟨d0, d1, d2, d3⟩ := T4.out.facts4
        go_wp2
        go_ret2
        exact PAns.mk' HX.out M4.out
      · go_enter Try.func15, Try.ntmps15
        go_upto_region 1 with fail
        obtain ⟨w1, hw1⟩ : ∃ w1, w1 = w.alloc (.cells #[.int .i64 f, .string h, .string p, .string q] 23) := ⟨_, rfl⟩
        obtain ⟨n0, hn0⟩ : ∃ n0, n0 = w.heap.size := ⟨_, rfl⟩
        have HB := Lib.hid (show Row w1 n0 23 #[.int .i64 f, .string h, .string p, .string q] by rw [hw1, hn0]; exact Row.new w _ _)
        have HM := Lib.hid (show Mods [] w w1 by rw [hw1]; exact (Mods.refl [] w).alloc _)
        rw [← hw1, ← hn0]
        clear hw1 hn0
        obtain ⟨c0, c1, c2, c3⟩ := HB.out.facts4
        go_upto_region 16 with fail
        rw [← HSX.out]
        go_upto_region 17 with (go_at_call 12; (try rw [← HSX.out]); refine (HP.out _).mono ?_; rintro e w3 ⟨rfl, hm⟩; have M3 := Lib.hid (HM.out.on hm); have R3 := Lib.hid (HB.out.mods hm (by simp)); clear hm)
        obtain ⟨w4, hw4⟩ : ∃ w4, w4 = w3.alloc (.cells #[.int .i64 xf, .string xh, .string xp, .string xq] 23) := ⟨_, rfl⟩
        have R4 := Lib.hid (show Row w4 n0 23 #[.int .i64 f, .string h, .string p, .string q] by rw [hw4]; exact R3.out.alloc _)
        have T4 := Lib.hid (show Row w4 w3.heap.size 23 #[.int .i64 xf, .string xh, .string xp, .string xq] by rw [hw4]; exact Row.new w3 _ _)
        have M4 := Lib.hid (show Mods [] w w4 by rw [hw4]; exact M3.out.alloc _)
        rw [← hw4]
        clear hw4
        obtain ⟨k0, k1, k2, k3⟩ := R4.out.facts4
        obtain ⟨d0, d1, d2, d3⟩ := T4.out.facts4
        go_wp2
        go_ret2
        exact PAns.mk' HX.out M4.out
  · have e1 := (i_ne hn).2
    have HX := Lib.hid (HE.out hn)
    obtain ⟨xf, xh, xp, xq⟩ := x
    simp only [Tgt.cells] at HP
    clear hn HE HO HS
    go_enter Try.func15, Try.ntmps15
    go_upto_region 1 with fail
    obtain ⟨w1, hw1⟩ : ∃ w1, w1 = w.alloc (.cells #[.int .i64 f, .string h, .string p, .string q] 23) := ⟨_, rfl⟩
    obtain ⟨n0, hn0⟩ : ∃ n0, n0 = w.heap.size := ⟨_, rfl⟩
    have HB := Lib.hid (show Row w1 n0 23 #[.int .i64 f, .string h, .string p, .string q] by rw [hw1, hn0]; exact Row.new w _ _)
    have HM := Lib.hid (show Mods [] w w1 by rw [hw1]; exact (Mods.refl [] w).alloc _)
    rw [← hw1, ← hn0]
    clear hw1 hn0
    obtain ⟨c0, c1, c2, c3⟩ := HB.out.facts4
    go_upto_region 16 with fail
    rw [← HSX.out]
    go_upto_region 17 with (go_at_call 12; (try rw [← HSX.out]); refine (HP.out _).mono ?_; rintro e w3 ⟨rfl, hm⟩; have M3 := Lib.hid (HM.out.on hm); have R3 := Lib.hid (HB.out.mods hm (by simp)); clear hm)
    obtain ⟨w4, hw4⟩ : ∃ w4, w4 = w3.alloc (.cells #[.int .i64 xf, .string xh, .string xp, .string xq] 23) := ⟨_, rfl⟩
    have R4 := Lib.hid (show Row w4 n0 23 #[.int .i64 f, .string h, .string p, .string q] by rw [hw4]; exact R3.out.alloc _)
    have T4 := Lib.hid (show Row w4 w3.heap.size 23 #[.int .i64 xf, .string xh, .string xp, .string xq] by rw [hw4]; exact Row.new w3 _ _)
    have M4 := Lib.hid (show Mods [] w w4 by rw [hw4]; exact M3.out.alloc _)
    rw [← hw4]
    clear hw4
    obtain ⟨k0, k1, k2, k3⟩ := R4.out.facts4
    obtain ⟨d0, d1, d2, d3⟩ := T4.out.facts4
    go_wp2
    go_ret2
    exact PAns.mk' HX.out M4.out
end Go.Proofs.Ytgckpoecdaioiaa
