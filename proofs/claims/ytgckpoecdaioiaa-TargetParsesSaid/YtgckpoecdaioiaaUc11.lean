/- Print of the document. Conditions: a target of at most two hundred bytes a field. -/
import Derived.Test.YtgckpoecdaioiaaUb11
namespace Go.Proofs.Ytgckpoecdaioiaa
open Go.RowKit
set_option linter.unusedVariables false
set_option linter.unusedSimpArgs false

set_option maxRecDepth 10000 in
set_option maxHeartbeats 4000000 in
theorem print_r1e (h p q : ByteArray) (hp200 : p.size ≤ 200) (hq200 : q.size ≤ 200) (hh200 : h.size ≤ 200) (hq0 : q.data.toList = []) (w : World) :
    Calls Try.prog 15 #[.agg #[.int .i64 1, .string h, .string p, .string q]] w (PAns w ⟨1, h, p, q⟩) := by
  have b1 : decide (200 < p.size) = false := decide_eq_false (by omega)
  have b2 : decide (200 < q.size) = false := decide_eq_false (by omega)
  have b3 : decide (200 < h.size) = false := decide_eq_false (by omega)
  have hws := (wr_size ⟨1, h, p, q⟩ (by show h.size + p.size + q.size ≤ 1000; omega)).2
  obtain ⟨x, n, hr⟩ : ∃ x n, parT (wrT ⟨1, h, p, q⟩).1 (wrT ⟨1, h, p, q⟩).2 = (x, n) := ⟨_, _, rfl⟩
  have HE := Lib.hid (fun hn => prT_err hr hn)
  have HO := Lib.hid (fun hn => prT_other hr hn)
  have HS := Lib.hid (fun h0 hn => prT_same hr h0 hn)
  have HPT := Lib.hid (fun w => path_r p (by omega) w)
  have hpz : (ofL (pathL p.data.toList)).size ≤ 600 := by rw [ofL_size]; have := (pathL_len p.data.toList).2; rw [len_data] at this; omega
  have q1 := emp_yes (show q.size = 0 by show q.data.toList.length = 0; rw [hq0]; rfl)
  have hwr := wr_1 (t := ⟨1, h, p, q⟩) rfl
  rw [hwr] at hr HS hws
  simp only [textL] at hr HS hws
  have hsl : (ofL (pathL p.data.toList)).data.toList = pathL p.data.toList ++ queL q.data.toList := queL_no hq0 p
  have hsz : (ofL (pathL p.data.toList)).size ≤ 5000 := by rw [list_size hsl]; exact hws
  have HRES := Lib.hid (show (ofL (pathL p.data.toList)) = ofL (pathL p.data.toList ++ queL q.data.toList) by rw [← hsl, ofL_data])
  obtain ⟨sx, hsx⟩ : ∃ sx, sx = (ofL (pathL p.data.toList)) := ⟨_, rfl⟩
  rw [← hsx] at hsl hsz HRES
  have HP := Lib.hid (fun w => parse_r ⟨#[71, 69, 84]⟩ sx w (by decide) (by omega))
  unfold TAns at HP
  rw [hsl, show (⟨#[71, 69, 84]⟩ : ByteArray).data.toList = getL from rfl, hr] at HP
  have HSX := Lib.hid hsx
  clear hwr hws hsl hsx hr
  by_cases hn : n = 0
  · have e1 := (i_eq hn).2
    have HN := Lib.hid hn
    clear hn
    cases hsame : sameT x ⟨1, h, p, q⟩ with
    | true =>
      have HX := Lib.hid (HS.out HN.out hsame)
      have hxt := (sameT_iff _ _).1 hsame
      subst hxt
      simp only [Tgt.cells] at HP
      rw [← HRES.out] at HX
      clear hsame HE HO HS
      go_enter Try.func15, Try.ntmps15
      go_upto_region 1 with fail
      obtain ⟨w1, hw1⟩ : ∃ w1, w1 = w.alloc (.cells #[.int .i64 1, .string h, .string p, .string q] 23) := ⟨_, rfl⟩
      obtain ⟨n0, hn0⟩ : ∃ n0, n0 = w.heap.size := ⟨_, rfl⟩
      have HB := Lib.hid (show Row w1 n0 23 #[.int .i64 1, .string h, .string p, .string q] by rw [hw1, hn0]; exact Row.new w _ _)
      have HM := Lib.hid (show Mods [] w w1 by rw [hw1]; exact (Mods.refl [] w).alloc _)
      rw [← hw1, ← hn0]
      clear hw1 hn0
      obtain ⟨c0, c1, c2, c3⟩ := HB.out.facts4
      go_upto_region 16 with (go_at_call 33; refine (HPT.out _).mono ?_; rintro e w2 ⟨rfl, hm⟩; have M2 := Lib.hid (HM.out.on hm); have R2 := Lib.hid (HB.out.mods hm (by simp)); obtain ⟨g0, g1, g2, g3⟩ := R2.out.facts4; clear hm)
      rw [← HSX.out]
      go_upto_region 17 with (go_at_call 12; (try rw [← HSX.out]); refine (HP.out _).mono ?_; rintro e w3 ⟨rfl, hm⟩; have M3 := Lib.hid (M2.out.on hm); have R3 := Lib.hid (R2.out.mods hm (by simp)); clear hm)
      obtain ⟨w4, hw4⟩ : ∃ w4, w4 = w3.alloc (.cells #[.int .i64 1, .string h, .string p, .string q] 23) := ⟨_, rfl⟩
      have R4 := Lib.hid (show Row w4 n0 23 #[.int .i64 1, .string h, .string p, .string q] by rw [hw4]; exact R3.out.alloc _)
      have T4 := Lib.hid (show Row w4 w3.heap.size 23 #[.int .i64 1, .string h, .string p, .string q] by rw [hw4]; exact Row.new w3 _ _)
      have M4 := Lib.hid (show Mods [] w w4 by rw [hw4]; exact M3.out.alloc _)
      rw [← hw4]
      clear hw4
      obtain ⟨k0, k1, k2, k3⟩ := R4.out.facts4
      obtain ⟨d0, d1, d2, d3⟩ := T4.out.facts4
      go_wp2
      go_ret2
      exact PAns.mk' HX.out M4.out
    | false =>
      have HX := Lib.hid (HO.out hsame)
      have hns := not_same hsame
      obtain ⟨xf, xh, xp, xq⟩ := x
      simp only [Tgt.cells] at HP
      simp only at hns
      clear hsame HE HO HS
      rcases hns with n1 | ⟨n1, n2⟩ | ⟨n1, n2, n3⟩ | ⟨n1, n2, n3, n4⟩
      · go_enter Try.func15, Try.ntmps15
        go_upto_region 1 with fail
        obtain ⟨w1, hw1⟩ : ∃ w1, w1 = w.alloc (.cells #[.int .i64 1, .string h, .string p, .string q] 23) := ⟨_, rfl⟩
        obtain ⟨n0, hn0⟩ : ∃ n0, n0 = w.heap.size := ⟨_, rfl⟩
        have HB := Lib.hid (show Row w1 n0 23 #[.int .i64 1, .string h, .string p, .string q] by rw [hw1, hn0]; exact Row.new w _ _)
        have HM := Lib.hid (show Mods [] w w1 by rw [hw1]; exact (Mods.refl [] w).alloc _)
        rw [← hw1, ← hn0]
        clear hw1 hn0
        obtain ⟨c0, c1, c2, c3⟩ := HB.out.facts4
        go_upto_region 16 with (go_at_call 33; refine (HPT.out _).mono ?_; rintro e w2 ⟨rfl, hm⟩; have M2 := Lib.hid (HM.out.on hm); have R2 := Lib.hid (HB.out.mods hm (by simp)); obtain ⟨g0, g1, g2, g3⟩ := R2.out.facts4; clear hm)
        rw [← HSX.out]
        go_upto_region 17 with (go_at_call 12; (try rw [← HSX.out]); refine (HP.out _).mono ?_; rintro e w3 ⟨rfl, hm⟩; have M3 := Lib.hid (M2.out.on hm); have R3 := Lib.hid (R2.out.mods hm (by simp)); clear hm)
        obtain ⟨w4, hw4⟩ : ∃ w4, w4 = w3.alloc (.cells #[.int .i64 xf, .string xh, .string xp, .string xq] 23) := ⟨_, rfl⟩
        have R4 := Lib.hid (show Row w4 n0 23 #[.int .i64 1, .string h, .string p, .string q] by rw [hw4]; exact R3.out.alloc _)
        have T4 := Lib.hid (show Row w4 w3.heap.size 23 #[.int .i64 xf, .string xh, .string xp, .string xq] by rw [hw4]; exact Row.new w3 _ _)
        have M4 := Lib.hid (show Mods [] w w4 by rw [hw4]; exact M3.out.alloc _)
        rw [← hw4]
        clear hw4
        obtain ⟨k0, k1, k2, k3⟩ := R4.out.facts4
        obtain ⟨d0, d1, d2, d3⟩ := T4.out.facts4
        go_wp2
        go_ret2
        exact PAns.mk' HX.out M4.out
      · go_enter Try.func15, Try.ntmps15
        go_upto_region 1 with fail
        obtain ⟨w1, hw1⟩ : ∃ w1, w1 = w.alloc (.cells #[.int .i64 1, .string h, .string p, .string q] 23) := ⟨_, rfl⟩
        obtain ⟨n0, hn0⟩ : ∃ n0, n0 = w.heap.size := ⟨_, rfl⟩
        have HB := Lib.hid (show Row w1 n0 23 #[.int .i64 1, .string h, .string p, .string q] by rw [hw1, hn0]; exact Row.new w _ _)
        have HM := Lib.hid (show Mods [] w w1 by rw [hw1]; exact (Mods.refl [] w).alloc _)
        rw [← hw1, ← hn0]
        clear hw1 hn0
        obtain ⟨c0, c1, c2, c3⟩ := HB.out.facts4
        go_upto_region 16 with (go_at_call 33; refine (HPT.out _).mono ?_; rintro e w2 ⟨rfl, hm⟩; have M2 := Lib.hid (HM.out.on hm); have R2 := Lib.hid (HB.out.mods hm (by simp)); obtain ⟨g0, g1, g2, g3⟩ := R2.out.facts4; clear hm)
        rw [← HSX.out]
        go_upto_region 17 with (go_at_call 12; (try rw [← HSX.out]); refine (HP.out _).mono ?_; rintro e w3 ⟨rfl, hm⟩; have M3 := Lib.hid (M2.out.on hm); have R3 := Lib.hid (R2.out.mods hm (by simp)); clear hm)
        obtain ⟨w4, hw4⟩ : ∃ w4, w4 = w3.alloc (.cells #[.int .i64 xf, .string xh, .string xp, .string xq] 23) := ⟨_, rfl⟩
        have R4 := Lib.hid (show Row w4 n0 23 #[.int .i64 1, .string h, .string p, .string q] by rw [hw4]; exact R3.out.alloc _)
        have T4 := Lib.hid (show Row w4 w3.heap.size 23 #[.int .i64 xf, .string xh, .string xp, .string xq] by rw [hw4]; exact Row.new w3 _ _)
        have M4 := Lib.hid (show Mods [] w w4 by rw [hw4]; exact M3.out.alloc _)
        rw [← hw4]
        clear hw4
        obtain ⟨k0, k1, k2, k3⟩ := R4.out.facts4
        obtain ⟨d0, d1, d2, d3⟩ := T4.out.facts4
        go_wp2
        go_ret2
        exact PAns.mk' HX.out M4.out
      · go_enter Try.func15, Try.ntmps15
        go_upto_region 1 with fail
        obtain ⟨w1, hw1⟩ : ∃ w1, w1 = w.alloc (.cells #[.int .i64 1, .string h, .string p, .string q] 23) := ⟨_, rfl⟩
        obtain ⟨n0, hn0⟩ : ∃ n0, n0 = w.heap.size := ⟨_, rfl⟩
        have HB := Lib.hid (show Row w1 n0 23 #[.int .i64 1, .string h, .string p, .string q] by rw [hw1, hn0]; exact Row.new w _ _)
        have HM := Lib.hid (show Mods [] w w1 by rw [hw1]; exact (Mods.refl [] w).alloc _)
        rw [← hw1, ← hn0]
        clear hw1 hn0
        obtain ⟨c0, c1, c2, c3⟩ := HB.out.facts4
        go_upto_region 16 with (go_at_call 33; refine (HPT.out _).mono ?_; rintro e w2 ⟨rfl, hm⟩; have M2 := Lib.hid (HM.out.on hm); have R2 := Lib.hid (HB.out.mods hm (by simp)); obtain ⟨g0, g1, g2, g3⟩ := R2.out.facts4; clear hm)
        rw [← HSX.out]
        go_upto_region 17 with (go_at_call 12; (try rw [← HSX.out]); refine (HP.out _).mono ?_; rintro e w3 ⟨rfl, hm⟩; have M3 := Lib.hid (M2.out.on hm); have R3 := Lib.hid (R2.out.mods hm (by simp)); clear hm)
        obtain ⟨w4, hw4⟩ : ∃ w4, w4 = w3.alloc (.cells #[.int .i64 xf, .string xh, .string xp, .string xq] 23) := ⟨_, rfl⟩
        have R4 := Lib.hid (show Row w4 n0 23 #[.int .i64 1, .string h, .string p, .string q] by rw [hw4]; exact R3.out.alloc _)
        have T4 := Lib.hid (show Row w4 w3.heap.size 23 #[.int .i64 xf, .string xh, .string xp, .string xq] by rw [hw4]; exact Row.new w3 _ _)
        have M4 := Lib.hid (show Mods [] w w4 by rw [hw4]; exact M3.out.alloc _)
        rw [← hw4]
        clear hw4
        obtain ⟨k0, k1, k2, k3⟩ := R4.out.facts4
        obtain ⟨d0, d1, d2, d3⟩ := T4.out.facts4
        go_wp2
        go_ret2
        exact PAns.mk' HX.out M4.out
      · obtain ⟨x1, x2⟩ := emp_no (s := xq) (size_pos (fun h => by rw [ByteArray.toList_eq, ByteArray.toList_eq, h, hq0] at n4; simp at n4))
        go_enter Try.func15, Try.ntmps15
        go_upto_region 1 with fail
        obtain ⟨w1, hw1⟩ : ∃ w1, w1 = w.alloc (.cells #[.int .i64 1, .string h, .string p, .string q] 23) := ⟨_, rfl⟩
        obtain ⟨n0, hn0⟩ : ∃ n0, n0 = w.heap.size := ⟨_, rfl⟩
        have HB := Lib.hid (show Row w1 n0 23 #[.int .i64 1, .string h, .string p, .string q] by rw [hw1, hn0]; exact Row.new w _ _)
        have HM := Lib.hid (show Mods [] w w1 by rw [hw1]; exact (Mods.refl [] w).alloc _)
        rw [← hw1, ← hn0]
        clear hw1 hn0
        obtain ⟨c0, c1, c2, c3⟩ := HB.out.facts4
        go_upto_region 16 with (go_at_call 33; refine (HPT.out _).mono ?_; rintro e w2 ⟨rfl, hm⟩; have M2 := Lib.hid (HM.out.on hm); have R2 := Lib.hid (HB.out.mods hm (by simp)); obtain ⟨g0, g1, g2, g3⟩ := R2.out.facts4; clear hm)
        rw [← HSX.out]
        go_upto_region 17 with (go_at_call 12; (try rw [← HSX.out]); refine (HP.out _).mono ?_; rintro e w3 ⟨rfl, hm⟩; have M3 := Lib.hid (M2.out.on hm); have R3 := Lib.hid (R2.out.mods hm (by simp)); clear hm)
        obtain ⟨w4, hw4⟩ : ∃ w4, w4 = w3.alloc (.cells #[.int .i64 xf, .string xh, .string xp, .string xq] 23) := ⟨_, rfl⟩
        have R4 := Lib.hid (show Row w4 n0 23 #[.int .i64 1, .string h, .string p, .string q] by rw [hw4]; exact R3.out.alloc _)
        have T4 := Lib.hid (show Row w4 w3.heap.size 23 #[.int .i64 xf, .string xh, .string xp, .string xq] by rw [hw4]; exact Row.new w3 _ _)
        have M4 := Lib.hid (show Mods [] w w4 by rw [hw4]; exact M3.out.alloc _)
        rw [← hw4]
        clear hw4
        obtain ⟨k0, k1, k2, k3⟩ := R4.out.facts4
        obtain ⟨d0, d1, d2, d3⟩ := T4.out.facts4
        go_wp2
        go_ret2
        exact PAns.mk' HX.out M4.out
  · have e1 := (i_ne hn).2
    have HX := Lib.hid (HE.out hn)
    obtain ⟨xf, xh, xp, xq⟩ := x
    simp only [Tgt.cells] at HP
    clear hn HE HO HS
    go_enter Try.func15, Try.ntmps15
    go_upto_region 1 with fail
    obtain ⟨w1, hw1⟩ : ∃ w1, w1 = w.alloc (.cells #[.int .i64 1, .string h, .string p, .string q] 23) := ⟨_, rfl⟩
    obtain ⟨n0, hn0⟩ : ∃ n0, n0 = w.heap.size := ⟨_, rfl⟩
    have HB := Lib.hid (show Row w1 n0 23 #[.int .i64 1, .string h, .string p, .string q] by rw [hw1, hn0]; exact Row.new w _ _)
    have HM := Lib.hid (show Mods [] w w1 by rw [hw1]; exact (Mods.refl [] w).alloc _)
    rw [← hw1, ← hn0]
    clear hw1 hn0
    obtain ⟨c0, c1, c2, c3⟩ := HB.out.facts4
    go_upto_region 16 with (go_at_call 33; refine (HPT.out _).mono ?_; rintro e w2 ⟨rfl, hm⟩; have M2 := Lib.hid (HM.out.on hm); have R2 := Lib.hid (HB.out.mods hm (by simp)); obtain ⟨g0, g1, g2, g3⟩ := R2.out.facts4; clear hm)
    rw [← HSX.out]
    go_upto_region 17 with (go_at_call 12; (try rw [← HSX.out]); refine (HP.out _).mono ?_; rintro e w3 ⟨rfl, hm⟩; have M3 := Lib.hid (M2.out.on hm); have R3 := Lib.hid (R2.out.mods hm (by simp)); clear hm)
    obtain ⟨w4, hw4⟩ : ∃ w4, w4 = w3.alloc (.cells #[.int .i64 xf, .string xh, .string xp, .string xq] 23) := ⟨_, rfl⟩
    have R4 := Lib.hid (show Row w4 n0 23 #[.int .i64 1, .string h, .string p, .string q] by rw [hw4]; exact R3.out.alloc _)
    have T4 := Lib.hid (show Row w4 w3.heap.size 23 #[.int .i64 xf, .string xh, .string xp, .string xq] by rw [hw4]; exact Row.new w3 _ _)
    have M4 := Lib.hid (show Mods [] w w4 by rw [hw4]; exact M3.out.alloc _)
    rw [← hw4]
    clear hw4
    obtain ⟨k0, k1, k2, k3⟩ := R4.out.facts4
    obtain ⟨d0, d1, d2, d3⟩ := T4.out.facts4
    go_wp2
    go_ret2
    exact PAns.mk' HX.out M4.out
set_option maxRecDepth 10000 in
set_option maxHeartbeats 4000000 in
theorem print_r1q (h p q : ByteArray) (hp200 : p.size ≤ 200) (hq200 : q.size ≤ 200) (hh200 : h.size ≤ 200) (hq0 : q.data.toList ≠ []) (w : World) :
    Calls Try.prog 15 #[.agg #[.int .i64 1, .string h, .string p, .string q]] w (PAns w ⟨1, h, p, q⟩) := by
  have b1 : decide (200 < p.size) = false := decide_eq_false (by omega)
  have b2 : decide (200 < q.size) = false := decide_eq_false (by omega)
  have b3 : decide (200 < h.size) = false := decide_eq_false (by omega)
  have hws := (wr_size ⟨1, h, p, q⟩ (by show h.size + p.size + q.size ≤ 1000; omega)).2
  obtain ⟨x, n, hr⟩ : ∃ x n, parT (wrT ⟨1, h, p, q⟩).1 (wrT ⟨1, h, p, q⟩).2 = (x, n) := ⟨_, _, rfl⟩
  have HE := Lib.hid (fun hn => prT_err hr hn)
  have HO := Lib.hid (fun hn => prT_other hr hn)
  have HS := Lib.hid (fun h0 hn => prT_same hr h0 hn)
  have HPT := Lib.hid (fun w => path_r p (by omega) w)
  have hpz : (ofL (pathL p.data.toList)).size ≤ 600 := by rw [ofL_size]; have := (pathL_len p.data.toList).2; rw [len_data] at this; omega
  obtain ⟨q1, q2⟩ := emp_no (size_pos hq0)
  have hwr := wr_1 (t := ⟨1, h, p, q⟩) rfl
  rw [hwr] at hr HS hws
  simp only [textL] at hr HS hws
  have hsl : (ofL (pathL p.data.toList) ++ ⟨#[63]⟩ ++ q).data.toList = pathL p.data.toList ++ queL q.data.toList := queL_yes hq0 p
  have hsz : (ofL (pathL p.data.toList) ++ ⟨#[63]⟩ ++ q).size ≤ 5000 := by rw [list_size hsl]; exact hws
  have HRES := Lib.hid (show (ofL (pathL p.data.toList) ++ ⟨#[63]⟩ ++ q) = ofL (pathL p.data.toList ++ queL q.data.toList) by rw [← hsl, ofL_data])
  obtain ⟨sx, hsx⟩ : ∃ sx, sx = (ofL (pathL p.data.toList) ++ ⟨#[63]⟩ ++ q) := ⟨_, rfl⟩
  rw [← hsx] at hsl hsz HRES
  have HP := Lib.hid (fun w => parse_r ⟨#[71, 69, 84]⟩ sx w (by decide) (by omega))
  unfold TAns at HP
  rw [hsl, show (⟨#[71, 69, 84]⟩ : ByteArray).data.toList = getL from rfl, hr] at HP
  have HSX := Lib.hid hsx
  clear hwr hws hsl hsx hr
  by_cases hn : n = 0
  · have e1 := (i_eq hn).2
    have HN := Lib.hid hn
    clear hn
    cases hsame : sameT x ⟨1, h, p, q⟩ with
    | true =>
      have HX := Lib.hid (HS.out HN.out hsame)
      have hxt := (sameT_iff _ _).1 hsame
      subst hxt
      simp only [Tgt.cells] at HP
      rw [← HRES.out] at HX
      clear hsame HE HO HS
      go_enter Try.func15, Try.ntmps15
      go_upto_region 1 with fail
      obtain ⟨w1, hw1⟩ : ∃ w1, w1 = w.alloc (.cells #[.int .i64 1, .string h, .string p, .string q] 23) := ⟨_, rfl⟩
      obtain ⟨n0, hn0⟩ : ∃ n0, n0 = w.heap.size := ⟨_, rfl⟩
      have HB := Lib.hid (show Row w1 n0 23 #[.int .i64 1, .string h, .string p, .string q] by rw [hw1, hn0]; exact Row.new w _ _)
      have HM := Lib.hid (show Mods [] w w1 by rw [hw1]; exact (Mods.refl [] w).alloc _)
      rw [← hw1, ← hn0]
      clear hw1 hn0
      obtain ⟨c0, c1, c2, c3⟩ := HB.out.facts4
      go_upto_region 16 with (go_at_call 33; refine (HPT.out _).mono ?_; rintro e w2 ⟨rfl, hm⟩; have M2 := Lib.hid (HM.out.on hm); have R2 := Lib.hid (HB.out.mods hm (by simp)); obtain ⟨g0, g1, g2, g3⟩ := R2.out.facts4; clear hm)
      rw [← HSX.out]
      go_upto_region 17 with (go_at_call 12; (try rw [← HSX.out]); refine (HP.out _).mono ?_; rintro e w3 ⟨rfl, hm⟩; have M3 := Lib.hid (M2.out.on hm); have R3 := Lib.hid (R2.out.mods hm (by simp)); clear hm)
      obtain ⟨w4, hw4⟩ : ∃ w4, w4 = w3.alloc (.cells #[.int .i64 1, .string h, .string p, .string q] 23) := ⟨_, rfl⟩
      have R4 := Lib.hid (show Row w4 n0 23 #[.int .i64 1, .string h, .string p, .string q] by rw [hw4]; exact R3.out.alloc _)
      have T4 := Lib.hid (show Row w4 w3.heap.size 23 #[.int .i64 1, .string h, .string p, .string q] by rw [hw4]; exact Row.new w3 _ _)
      have M4 := Lib.hid (show Mods [] w w4 by rw [hw4]; exact M3.out.alloc _)
      rw [← hw4]
      clear hw4
      obtain ⟨k0, k1, k2, k3⟩ := R4.out.facts4
      obtain ⟨d0, d1, d2, d3⟩ := T4.out.facts4
      go_wp2
      go_ret2
      exact PAns.mk' HX.out M4.out
    | false =>
      have HX := Lib.hid (HO.out hsame)
      have hns := not_same hsame
      obtain ⟨xf, xh, xp, xq⟩ := x
      simp only [Tgt.cells] at HP
      simp only at hns
      clear hsame HE HO HS
      rcases hns with n1 | ⟨n1, n2⟩ | ⟨n1, n2, n3⟩ | ⟨n1, n2, n3, n4⟩
      · go_enter Try.func15, Try.ntmps15
        go_upto_region 1 with fail
        obtain ⟨w1, hw1⟩ : ∃ w1, w1 = w.alloc (.cells #[.int .i64 1, .string h, .string p, .string q] 23) := ⟨_, rfl⟩
        obtain ⟨n0, hn0⟩ : ∃ n0, n0 = w.heap.size := ⟨_, rfl⟩
        have HB := Lib.hid (show Row w1 n0 23 #[.int .i64 1, .string h, .string p, .string q] by rw [hw1, hn0]; exact Row.new w _ _)
        have HM := Lib.hid (show Mods [] w w1 by rw [hw1]; exact (Mods.refl [] w).alloc _)
        rw [← hw1, ← hn0]
        clear hw1 hn0
        obtain ⟨c0, c1, c2, c3⟩ := HB.out.facts4
        go_upto_region 16 with (go_at_call 33; refine (HPT.out _).mono ?_; rintro e w2 ⟨rfl, hm⟩; have M2 := Lib.hid (HM.out.on hm); have R2 := Lib.hid (HB.out.mods hm (by simp)); obtain ⟨g0, g1, g2, g3⟩ := R2.out.facts4; clear hm)
        rw [← HSX.out]
        go_upto_region 17 with (go_at_call 12; (try rw [← HSX.out]); refine (HP.out _).mono ?_; rintro e w3 ⟨rfl, hm⟩; have M3 := Lib.hid (M2.out.on hm); have R3 := Lib.hid (R2.out.mods hm (by simp)); clear hm)
        obtain ⟨w4, hw4⟩ : ∃ w4, w4 = w3.alloc (.cells #[.int .i64 xf, .string xh, .string xp, .string xq] 23) := ⟨_, rfl⟩
        have R4 := Lib.hid (show Row w4 n0 23 #[.int .i64 1, .string h, .string p, .string q] by rw [hw4]; exact R3.out.alloc _)
        have T4 := Lib.hid (show Row w4 w3.heap.size 23 #[.int .i64 xf, .string xh, .string xp, .string xq] by rw [hw4]; exact Row.new w3 _ _)
        have M4 := Lib.hid (show Mods [] w w4 by rw [hw4]; exact M3.out.alloc _)
        rw [← hw4]
        clear hw4
        obtain ⟨k0, k1, k2, k3⟩ := R4.out.facts4
        obtain ⟨d0, d1, d2, d3⟩ := T4.out.facts4
        go_wp2
        go_ret2
        exact PAns.mk' HX.out M4.out
      · go_enter Try.func15, Try.ntmps15
        go_upto_region 1 with fail
        obtain ⟨w1, hw1⟩ : ∃ w1, w1 = w.alloc (.cells #[.int .i64 1, .string h, .string p, .string q] 23) := ⟨_, rfl⟩
        obtain ⟨n0, hn0⟩ : ∃ n0, n0 = w.heap.size := ⟨_, rfl⟩
        have HB := Lib.hid (show Row w1 n0 23 #[.int .i64 1, .string h, .string p, .string q] by rw [hw1, hn0]; exact Row.new w _ _)
        have HM := Lib.hid (show Mods [] w w1 by rw [hw1]; exact (Mods.refl [] w).alloc _)
        rw [← hw1, ← hn0]
        clear hw1 hn0
        obtain ⟨c0, c1, c2, c3⟩ := HB.out.facts4
        go_upto_region 16 with (go_at_call 33; refine (HPT.out _).mono ?_; rintro e w2 ⟨rfl, hm⟩; have M2 := Lib.hid (HM.out.on hm); have R2 := Lib.hid (HB.out.mods hm (by simp)); obtain ⟨g0, g1, g2, g3⟩ := R2.out.facts4; clear hm)
        rw [← HSX.out]
        go_upto_region 17 with (go_at_call 12; (try rw [← HSX.out]); refine (HP.out _).mono ?_; rintro e w3 ⟨rfl, hm⟩; have M3 := Lib.hid (M2.out.on hm); have R3 := Lib.hid (R2.out.mods hm (by simp)); clear hm)
        obtain ⟨w4, hw4⟩ : ∃ w4, w4 = w3.alloc (.cells #[.int .i64 xf, .string xh, .string xp, .string xq] 23) := ⟨_, rfl⟩
        have R4 := Lib.hid (show Row w4 n0 23 #[.int .i64 1, .string h, .string p, .string q] by rw [hw4]; exact R3.out.alloc _)
        have T4 := Lib.hid (show Row w4 w3.heap.size 23 #[.int .i64 xf, .string xh, .string xp, .string xq] by rw [hw4]; exact Row.new w3 _ _)
        have M4 := Lib.hid (show Mods [] w w4 by rw [hw4]; exact M3.out.alloc _)
        rw [← hw4]
        clear hw4
        obtain ⟨k0, k1, k2, k3⟩ := R4.out.facts4
        obtain ⟨d0, d1, d2, d3⟩ := T4.out.facts4
        go_wp2
        go_ret2
        exact PAns.mk' HX.out M4.out
      · go_enter Try.func15, Try.ntmps15
        go_upto_region 1 with fail
        obtain ⟨w1, hw1⟩ : ∃ w1, w1 = w.alloc (.cells #[.int .i64 1, .string h, .string p, .string q] 23) := ⟨_, rfl⟩
        obtain ⟨n0, hn0⟩ : ∃ n0, n0 = w.heap.size := ⟨_, rfl⟩
        have HB := Lib.hid (show Row w1 n0 23 #[.int .i64 1, .string h, .string p, .string q] by rw [hw1, hn0]; exact Row.new w _ _)
        have HM := Lib.hid (show Mods [] w w1 by rw [hw1]; exact (Mods.refl [] w).alloc _)
        rw [← hw1, ← hn0]
        clear hw1 hn0
        obtain ⟨c0, c1, c2, c3⟩ := HB.out.facts4
        go_upto_region 16 with (go_at_call 33; refine (HPT.out _).mono ?_; rintro e w2 ⟨rfl, hm⟩; have M2 := Lib.hid (HM.out.on hm); have R2 := Lib.hid (HB.out.mods hm (by simp)); obtain ⟨g0, g1, g2, g3⟩ := R2.out.facts4; clear hm)
        rw [← HSX.out]
        go_upto_region 17 with (go_at_call 12; (try rw [← HSX.out]); refine (HP.out _).mono ?_; rintro e w3 ⟨rfl, hm⟩; have M3 := Lib.hid (M2.out.on hm); have R3 := Lib.hid (R2.out.mods hm (by simp)); clear hm)
        obtain ⟨w4, hw4⟩ : ∃ w4, w4 = w3.alloc (.cells #[.int .i64 xf, .string xh, .string xp, .string xq] 23) := ⟨_, rfl⟩
        have R4 := Lib.hid (show Row w4 n0 23 #[.int .i64 1, .string h, .string p, .string q] by rw [hw4]; exact R3.out.alloc _)
        have T4 := Lib.hid (show Row w4 w3.heap.size 23 #[.int .i64 xf, .string xh, .string xp, .string xq] by rw [hw4]; exact Row.new w3 _ _)
        have M4 := Lib.hid (show Mods [] w w4 by rw [hw4]; exact M3.out.alloc _)
        rw [← hw4]
        clear hw4
        obtain ⟨k0, k1, k2, k3⟩ := R4.out.facts4
        obtain ⟨d0, d1, d2, d3⟩ := T4.out.facts4
        go_wp2
        go_ret2
        exact PAns.mk' HX.out M4.out
      · go_enter Try.func15, Try.ntmps15
        go_upto_region 1 with fail
        obtain ⟨w1, hw1⟩ : ∃ w1, w1 = w.alloc (.cells #[.int .i64 1, .string h, .string p, .string q] 23) := ⟨_, rfl⟩
        obtain ⟨n0, hn0⟩ : ∃ n0, n0 = w.heap.size := ⟨_, rfl⟩
        have HB := Lib.hid (show Row w1 n0 23 #[.int .i64 1, .string h, .string p, .string q] by rw [hw1, hn0]; exact Row.new w _ _)
        have HM := Lib.hid (show Mods [] w w1 by rw [hw1]; exact (Mods.refl [] w).alloc _)
        rw [← hw1, ← hn0]
        clear hw1 hn0
        obtain ⟨c0, c1, c2, c3⟩ := HB.out.facts4
        go_upto_region 16 with (go_at_call 33; refine (HPT.out _).mono ?_; rintro e w2 ⟨rfl, hm⟩; have M2 := Lib.hid (HM.out.on hm); have R2 := Lib.hid (HB.out.mods hm (by simp)); obtain ⟨g0, g1, g2, g3⟩ := R2.out.facts4; clear hm)
        rw [← HSX.out]
        go_upto_region 17 with (go_at_call 12; (try rw [← HSX.out]); refine (HP.out _).mono ?_; rintro e w3 ⟨rfl, hm⟩; have M3 := Lib.hid (M2.out.on hm); have R3 := Lib.hid (R2.out.mods hm (by simp)); clear hm)
        obtain ⟨w4, hw4⟩ : ∃ w4, w4 = w3.alloc (.cells #[.int .i64 xf, .string xh, .string xp, .string xq] 23) := ⟨_, rfl⟩
        have R4 := Lib.hid (show Row w4 n0 23 #[.int .i64 1, .string h, .string p, .string q] by rw [hw4]; exact R3.out.alloc _)
        have T4 := Lib.hid (show Row w4 w3.heap.size 23 #[.int .i64 xf, .string xh, .string xp, .string xq] by rw [hw4]; exact Row.new w3 _ _)
        have M4 := Lib.hid (show Mods [] w w4 by rw [hw4]; exact M3.out.alloc _)
        rw [← hw4]
        clear hw4
        obtain ⟨k0, k1, k2, k3⟩ := R4.out.facts4
        obtain ⟨d0, d1, d2, d3⟩ := T4.out.facts4
        go_wp2
        go_ret2
        exact PAns.mk' HX.out M4.out
  · have e1 := (i_ne hn).2
    have HX := Lib.hid (HE.out hn)
    obtain ⟨xf, xh, xp, xq⟩ := x
    simp only [Tgt.cells] at HP
    clear hn HE HO HS
    go_enter Try.func15, Try.ntmps15
    go_upto_region 1 with fail
    obtain ⟨w1, hw1⟩ : ∃ w1, w1 = w.alloc (.cells #[.int .i64 1, .string h, .string p, .string q] 23) := ⟨_, rfl⟩
    obtain ⟨n0, hn0⟩ : ∃ n0, n0 = w.heap.size := ⟨_, rfl⟩
    have HB := Lib.hid (show Row w1 n0 23 #[.int .i64 1, .string h, .string p, .string q] by rw [hw1, hn0]; exact Row.new w _ _)
    have HM := Lib.hid (show Mods [] w w1 by rw [hw1]; exact (Mods.refl [] w).alloc _)
    rw [← hw1, ← hn0]
    clear hw1 hn0
    obtain ⟨c0, c1, c2, c3⟩ := HB.out.facts4
    go_upto_region 16 with (go_at_call 33; refine (HPT.out _).mono ?_; rintro e w2 ⟨rfl, hm⟩; have M2 := Lib.hid (HM.out.on hm); have R2 := Lib.hid (HB.out.mods hm (by simp)); obtain ⟨g0, g1, g2, g3⟩ := R2.out.facts4; clear hm)
    rw [← HSX.out]
    go_upto_region 17 with (go_at_call 12; (try rw [← HSX.out]); refine (HP.out _).mono ?_; rintro e w3 ⟨rfl, hm⟩; have M3 := Lib.hid (M2.out.on hm); have R3 := Lib.hid (R2.out.mods hm (by simp)); clear hm)
    obtain ⟨w4, hw4⟩ : ∃ w4, w4 = w3.alloc (.cells #[.int .i64 xf, .string xh, .string xp, .string xq] 23) := ⟨_, rfl⟩
    have R4 := Lib.hid (show Row w4 n0 23 #[.int .i64 1, .string h, .string p, .string q] by rw [hw4]; exact R3.out.alloc _)
    have T4 := Lib.hid (show Row w4 w3.heap.size 23 #[.int .i64 xf, .string xh, .string xp, .string xq] by rw [hw4]; exact Row.new w3 _ _)
    have M4 := Lib.hid (show Mods [] w w4 by rw [hw4]; exact M3.out.alloc _)
    rw [← hw4]
    clear hw4
    obtain ⟨k0, k1, k2, k3⟩ := R4.out.facts4
    obtain ⟨d0, d1, d2, d3⟩ := T4.out.facts4
    go_wp2
    go_ret2
    exact PAns.mk' HX.out M4.out
end Go.Proofs.Ytgckpoecdaioiaa
