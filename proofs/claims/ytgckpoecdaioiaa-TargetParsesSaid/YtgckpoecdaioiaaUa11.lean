/- Print of the code. Conditions: a target of at most ten thousand bytes. -/
import Derived.Test.YtgckpoecdaioiaaTy11
namespace Go.Proofs.Ytgckpoecdaioiaa
open Go.RowKit
set_option linter.unusedVariables false
set_option linter.unusedSimpArgs false

/-- What Print answers, as an ending. -/
def PAns (w : World) (t : Tgt) (e : Ending) (w' : World) : Prop := e = .returned (.tuple #[.string (prT t).1, .int .i64 (prT t).2]) ∧ Mods [] w w'
theorem PAns.mk' {w w' : World} {t : Tgt} {a : ByteArray} {n : Int} (h : prT t = (a, n)) (hm : Mods [] w w') : PAns w t (.returned (.tuple #[.string a, .int .i64 n])) w' := by
  unfold PAns; rw [h]; exact ⟨rfl, hm⟩
theorem prT_err {t x : Tgt} {n : Int} (h : parT (wrT t).1 (wrT t).2 = (x, n)) (hn : n ≠ 0) : prT t = (noB, 1) := prT_no fun e => hn (tgt_inj (h.symm.trans e)).2
theorem prT_other {t x : Tgt} {n : Int} (h : parT (wrT t).1 (wrT t).2 = (x, n)) (hn : sameT x t = false) : prT t = (noB, 1) := prT_no fun e => by
  have := (tgt_inj (h.symm.trans e)).1
  rw [(sameT_iff x t).2 this] at hn; cases hn
theorem prT_same {t x : Tgt} {n : Int} (h : parT (wrT t).1 (wrT t).2 = (x, n)) (h0 : n = 0) (hn : sameT x t = true) : prT t = (ofL (wrT t).2, 0) := prT_yes (by rw [h, h0, (sameT_iff x t).1 hn])

theorem not_same {a b : Tgt} (h : sameT a b = false) :
    ((a.form == b.form) = false) ∨ ((a.form == b.form) = true ∧ (a.host.toList == b.host.toList) = false) ∨
    ((a.form == b.form) = true ∧ (a.host.toList == b.host.toList) = true ∧ (a.path.toList == b.path.toList) = false) ∨
    ((a.form == b.form) = true ∧ (a.host.toList == b.host.toList) = true ∧ (a.path.toList == b.path.toList) = true ∧ (a.query.toList == b.query.toList) = false) := by
  unfold sameT at h
  cases h1 : a.form == b.form with
  | false => exact .inl rfl
  | true =>
    cases h2 : a.host.toList == b.host.toList with
    | false => exact .inr (.inl ⟨rfl, rfl⟩)
    | true =>
      cases h3 : a.path.toList == b.path.toList with
      | false => exact .inr (.inr (.inl ⟨rfl, rfl, rfl⟩))
      | true =>
        cases h4 : a.query.toList == b.query.toList with
        | false => exact .inr (.inr (.inr ⟨rfl, rfl, rfl, rfl⟩))
        | true => rw [h1, h2, h3, h4] at h; cases h

set_option maxRecDepth 10000 in
set_option maxHeartbeats 1000000 in
theorem print_a (t : Tgt) (hz : t.host.size + t.path.size + t.query.size ≤ 10000) (w : World) :
    Calls Try.prog 14 #[.agg #[.int .i64 t.form, .string t.host, .string t.path, .string t.query]] w (PAns w t) := by
  by_cases hb : 200 < t.host.size + t.path.size + t.query.size
  · have HX := Lib.hid (prT_big hb)
    obtain ⟨f, h, p, q⟩ := t
    simp only at hb hz
    have hb2 : (200 : Int) < (h.size : Int) + (p.size : Int) + (q.size : Int) := by omega
    clear hb
    go_enter Try.func14, Try.ntmps14
    go_wp2
    go_ret2
    exact PAns.mk' HX.out ((Mods.refl [] w).alloc _)
  · have hws := wr_size t (by omega)
    have HW := Lib.hid (fun w => written_a t (by omega) w)
    have hmz : (ofL (wrT t).1).size ≤ 1000000 := by rw [ofL_size]; omega
    have hsz : (ofL (wrT t).2).size ≤ 900000 := by rw [ofL_size]; omega
    have HP := Lib.hid (fun w => parse_a (ofL (wrT t).1) (ofL (wrT t).2) w hmz hsz)
    unfold WAns at HW
    unfold TAns at HP
    rw [ofL_list, ofL_list] at HP
    obtain ⟨x, n, hr⟩ : ∃ x n, parT (wrT t).1 (wrT t).2 = (x, n) := ⟨_, _, rfl⟩
    rw [hr] at HP
    have HE := Lib.hid (fun hn => prT_err hr hn)
    have HO := Lib.hid (fun hn => prT_other hr hn)
    have HS := Lib.hid (fun h0 hn => prT_same hr h0 hn)
    obtain ⟨m, hm⟩ : ∃ m, m = ofL (wrT t).1 := ⟨_, rfl⟩
    obtain ⟨s, hs⟩ : ∃ s, s = ofL (wrT t).2 := ⟨_, rfl⟩
    rw [← hm] at HW HP
    rw [← hs] at HW HP HS
    clear hws hmz hsz hr hm hs
    obtain ⟨f, h, p, q⟩ := t
    simp only at hb hz
    have hb2 : decide ((200 : Int) < (h.size : Int) + (p.size : Int) + (q.size : Int)) = false := decide_eq_false (by omega)
    have hb3 : (h.size : Int) + (p.size : Int) + (q.size : Int) ≤ 200 := by omega
    clear hb
    by_cases hn : n = 0
    · have e1 := (i_eq hn).2
      have HN := Lib.hid hn
      clear hn
      cases hsame : sameT x ⟨f, h, p, q⟩ with
      | true =>
        have HX := Lib.hid (HS.out HN.out hsame)
        have hxt := (sameT_iff _ _).1 hsame
        subst hxt
        simp only [Tgt.cells] at HP
        clear hsame HE HO HS
        go_enter Try.func14, Try.ntmps14
        go_upto_region 4 with (go_at_call 32; refine (HW.out _).mono ?_; rintro e w2 ⟨rfl, hm⟩; have M2 := Lib.hid (((Mods.refl [] w).alloc _).on hm); have R2 := Lib.hid ((Row.new w 23 #[.int .i64 f, .string h, .string p, .string q]).mods hm (by simp)); clear hm)
        go_upto_region 5 with (go_at_call 11; refine (HP.out _).mono ?_; rintro e w3 ⟨rfl, hm⟩; have M3 := Lib.hid (M2.out.on hm); have R3 := Lib.hid (R2.out.mods hm (by simp)); clear hm)
        obtain ⟨w4, hw4⟩ : ∃ w4, w4 = w3.alloc (.cells #[.int .i64 f, .string h, .string p, .string q] 23) := ⟨_, rfl⟩
        have R4 := Lib.hid (show Row w4 w.heap.size 23 #[.int .i64 f, .string h, .string p, .string q] by rw [hw4]; exact R3.out.alloc _)
        have T4 := Lib.hid (show Row w4 w3.heap.size 23 #[.int .i64 f, .string h, .string p, .string q] by rw [hw4]; exact Row.new w3 _ _)
        have M4 := Lib.hid (show Mods [] w w4 by rw [hw4]; exact M3.out.alloc _)
        rw [← hw4]
        clear hw4
        obtain ⟨c0, c1, c2, c3⟩ := R4.out.facts4
        obtain ⟨d0, d1, d2, d3⟩ := T4.out.facts4
        go_wp2
        go_ret2
        exact PAns.mk' HX.out M4.out
      | false =>
        have HX := Lib.hid (HO.out hsame)
        have hns := not_same hsame
        obtain ⟨xf, xh, xp, xq⟩ := x
        simp only [Tgt.cells] at HP
        simp only at hns
        clear hsame HE HO HS
        rcases hns with n1 | ⟨n1, n2⟩ | ⟨n1, n2, n3⟩ | ⟨n1, n2, n3, n4⟩
        · go_enter Try.func14, Try.ntmps14
          go_upto_region 4 with (go_at_call 32; refine (HW.out _).mono ?_; rintro e w2 ⟨rfl, hm⟩; have M2 := Lib.hid (((Mods.refl [] w).alloc _).on hm); have R2 := Lib.hid ((Row.new w 23 #[.int .i64 f, .string h, .string p, .string q]).mods hm (by simp)); clear hm)
          go_upto_region 5 with (go_at_call 11; refine (HP.out _).mono ?_; rintro e w3 ⟨rfl, hm⟩; have M3 := Lib.hid (M2.out.on hm); have R3 := Lib.hid (R2.out.mods hm (by simp)); clear hm)
          obtain ⟨w4, hw4⟩ : ∃ w4, w4 = w3.alloc (.cells #[.int .i64 xf, .string xh, .string xp, .string xq] 23) := ⟨_, rfl⟩
          have R4 := Lib.hid (show Row w4 w.heap.size 23 #[.int .i64 f, .string h, .string p, .string q] by rw [hw4]; exact R3.out.alloc _)
          have T4 := Lib.hid (show Row w4 w3.heap.size 23 #[.int .i64 xf, .string xh, .string xp, .string xq] by rw [hw4]; exact Row.new w3 _ _)
          have M4 := Lib.hid (show Mods [] w w4 by rw [hw4]; exact M3.out.alloc _)
          rw [← hw4]
          clear hw4
          obtain ⟨c0, c1, c2, c3⟩ := R4.out.facts4
          obtain ⟨d0, d1, d2, d3⟩ := T4.out.facts4
          go_wp2
          go_ret2
          exact PAns.mk' HX.out M4.out
        · go_enter Try.func14, Try.ntmps14
          go_upto_region 4 with (go_at_call 32; refine (HW.out _).mono ?_; rintro e w2 ⟨rfl, hm⟩; have M2 := Lib.hid (((Mods.refl [] w).alloc _).on hm); have R2 := Lib.hid ((Row.new w 23 #[.int .i64 f, .string h, .string p, .string q]).mods hm (by simp)); clear hm)
          go_upto_region 5 with (go_at_call 11; refine (HP.out _).mono ?_; rintro e w3 ⟨rfl, hm⟩; have M3 := Lib.hid (M2.out.on hm); have R3 := Lib.hid (R2.out.mods hm (by simp)); clear hm)
          obtain ⟨w4, hw4⟩ : ∃ w4, w4 = w3.alloc (.cells #[.int .i64 xf, .string xh, .string xp, .string xq] 23) := ⟨_, rfl⟩
          have R4 := Lib.hid (show Row w4 w.heap.size 23 #[.int .i64 f, .string h, .string p, .string q] by rw [hw4]; exact R3.out.alloc _)
          have T4 := Lib.hid (show Row w4 w3.heap.size 23 #[.int .i64 xf, .string xh, .string xp, .string xq] by rw [hw4]; exact Row.new w3 _ _)
          have M4 := Lib.hid (show Mods [] w w4 by rw [hw4]; exact M3.out.alloc _)
          rw [← hw4]
          clear hw4
          obtain ⟨c0, c1, c2, c3⟩ := R4.out.facts4
          obtain ⟨d0, d1, d2, d3⟩ := T4.out.facts4
          go_wp2
          go_ret2
          exact PAns.mk' HX.out M4.out
        · go_enter Try.func14, Try.ntmps14
          go_upto_region 4 with (go_at_call 32; refine (HW.out _).mono ?_; rintro e w2 ⟨rfl, hm⟩; have M2 := Lib.hid (((Mods.refl [] w).alloc _).on hm); have R2 := Lib.hid ((Row.new w 23 #[.int .i64 f, .string h, .string p, .string q]).mods hm (by simp)); clear hm)
          go_upto_region 5 with (go_at_call 11; refine (HP.out _).mono ?_; rintro e w3 ⟨rfl, hm⟩; have M3 := Lib.hid (M2.out.on hm); have R3 := Lib.hid (R2.out.mods hm (by simp)); clear hm)
          obtain ⟨w4, hw4⟩ : ∃ w4, w4 = w3.alloc (.cells #[.int .i64 xf, .string xh, .string xp, .string xq] 23) := ⟨_, rfl⟩
          have R4 := Lib.hid (show Row w4 w.heap.size 23 #[.int .i64 f, .string h, .string p, .string q] by rw [hw4]; exact R3.out.alloc _)
          have T4 := Lib.hid (show Row w4 w3.heap.size 23 #[.int .i64 xf, .string xh, .string xp, .string xq] by rw [hw4]; exact Row.new w3 _ _)
          have M4 := Lib.hid (show Mods [] w w4 by rw [hw4]; exact M3.out.alloc _)
          rw [← hw4]
          clear hw4
          obtain ⟨c0, c1, c2, c3⟩ := R4.out.facts4
          obtain ⟨d0, d1, d2, d3⟩ := T4.out.facts4
          go_wp2
          go_ret2
          exact PAns.mk' HX.out M4.out
        · go_enter Try.func14, Try.ntmps14
          go_upto_region 4 with (go_at_call 32; refine (HW.out _).mono ?_; rintro e w2 ⟨rfl, hm⟩; have M2 := Lib.hid (((Mods.refl [] w).alloc _).on hm); have R2 := Lib.hid ((Row.new w 23 #[.int .i64 f, .string h, .string p, .string q]).mods hm (by simp)); clear hm)
          go_upto_region 5 with (go_at_call 11; refine (HP.out _).mono ?_; rintro e w3 ⟨rfl, hm⟩; have M3 := Lib.hid (M2.out.on hm); have R3 := Lib.hid (R2.out.mods hm (by simp)); clear hm)
          obtain ⟨w4, hw4⟩ : ∃ w4, w4 = w3.alloc (.cells #[.int .i64 xf, .string xh, .string xp, .string xq] 23) := ⟨_, rfl⟩
          have R4 := Lib.hid (show Row w4 w.heap.size 23 #[.int .i64 f, .string h, .string p, .string q] by rw [hw4]; exact R3.out.alloc _)
          have T4 := Lib.hid (show Row w4 w3.heap.size 23 #[.int .i64 xf, .string xh, .string xp, .string xq] by rw [hw4]; exact Row.new w3 _ _)
          have M4 := Lib.hid (show Mods [] w w4 by rw [hw4]; exact M3.out.alloc _)
          rw [← hw4]
          clear hw4
          obtain ⟨c0, c1, c2, c3⟩ := R4.out.facts4
          obtain ⟨d0, d1, d2, d3⟩ := T4.out.facts4
          go_wp2
          go_ret2
          exact PAns.mk' HX.out M4.out
    · have e1 := (i_ne hn).2
      have HX := Lib.hid (HE.out hn)
      obtain ⟨xf, xh, xp, xq⟩ := x
      simp only [Tgt.cells] at HP
      clear hn HE HO HS
      go_enter Try.func14, Try.ntmps14
      go_upto_region 4 with (go_at_call 32; refine (HW.out _).mono ?_; rintro e w2 ⟨rfl, hm⟩; have M2 := Lib.hid (((Mods.refl [] w).alloc _).on hm); have R2 := Lib.hid ((Row.new w 23 #[.int .i64 f, .string h, .string p, .string q]).mods hm (by simp)); clear hm)
      go_upto_region 5 with (go_at_call 11; refine (HP.out _).mono ?_; rintro e w3 ⟨rfl, hm⟩; have M3 := Lib.hid (M2.out.on hm); have R3 := Lib.hid (R2.out.mods hm (by simp)); clear hm)
      obtain ⟨w4, hw4⟩ : ∃ w4, w4 = w3.alloc (.cells #[.int .i64 xf, .string xh, .string xp, .string xq] 23) := ⟨_, rfl⟩
      have R4 := Lib.hid (show Row w4 w.heap.size 23 #[.int .i64 f, .string h, .string p, .string q] by rw [hw4]; exact R3.out.alloc _)
      have T4 := Lib.hid (show Row w4 w3.heap.size 23 #[.int .i64 xf, .string xh, .string xp, .string xq] by rw [hw4]; exact Row.new w3 _ _)
      have M4 := Lib.hid (show Mods [] w w4 by rw [hw4]; exact M3.out.alloc _)
      rw [← hw4]
      clear hw4
      obtain ⟨c0, c1, c2, c3⟩ := R4.out.facts4
      obtain ⟨d0, d1, d2, d3⟩ := T4.out.facts4
      go_wp2
      go_ret2
      exact PAns.mk' HX.out M4.out
end Go.Proofs.Ytgckpoecdaioiaa
