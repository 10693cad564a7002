/- Print of the code. Conditions: none but that texts can be read. -/
import Derived.Test.YtgckpoecdaioiaaTw11
namespace Go.Proofs.Ytgckpoecdaioiaa
open Go.RowKit
set_option linter.unusedVariables false
set_option linter.unusedSimpArgs false

/-- What written answers. -/
def WAns (w : World) (t : Tgt) (e : Ending) (w' : World) : Prop := e = .returned (.tuple #[.string (ofL (wrT t).1), .string (ofL (wrT t).2)]) ∧ Mods [] w w'
theorem WAns.mk' {w w' : World} {t : Tgt} {m s : List UInt8} {a b : ByteArray} (h : wrT t = (m, s)) (ha : a = ofL m) (hb : b = ofL s) (hm : Mods [] w w') : WAns w t (.returned (.tuple #[.string a, .string b])) w' := by
  subst ha hb; unfold WAns; rw [h]; exact ⟨rfl, hm⟩
theorem Row.facts4 {w : World} {n : Nat} {T : TypeId} {f : Int} {h p q : ByteArray} (r : Row w n T #[.int .i64 f, .string h, .string p, .string q]) :
    w.cell? ⟨n, 0, none⟩ = some (.int .i64 f) ∧ w.cell? ⟨n, 1, none⟩ = some (.string h) ∧ w.cell? ⟨n, 2, none⟩ = some (.string p) ∧ w.cell? ⟨n, 3, none⟩ = some (.string q) :=
  ⟨r.cell 0, r.cell 1, r.cell 2, r.cell 3⟩
theorem wr_size (t : Tgt) (h : t.host.size + t.path.size + t.query.size ≤ 1000) : (wrT t).1.length ≤ 10 ∧ (wrT t).2.length ≤ 5000 := by
  have hl := textL_len t
  by_cases h1 : t.form = 1
  · rw [wr_1 h1]; exact ⟨by show getL.length ≤ 10; decide, by show (textL t).length ≤ _; omega⟩
  · by_cases h2 : t.form = 2
    · rw [wr_2 h2]
      refine ⟨by show getL.length ≤ 10; decide, ?_⟩
      show (httpL ++ t.host.data.toList ++ textL t).length ≤ _
      rw [List.length_append, List.length_append, len_data]
      show 7 + _ + _ ≤ _; omega
    · by_cases h3 : t.form = 3
      · rw [wr_3 h3]; exact ⟨by show connectL.length ≤ 10; decide, by show t.host.data.toList.length ≤ _; rw [len_data]; omega⟩
      · by_cases h4 : t.form = 4
        · rw [wr_4 h4]; exact ⟨by show optionsL.length ≤ 10; decide, by show [(42 : UInt8)].length ≤ _; decide⟩
        · rw [wr_0 h1 h2 h3 h4]; exact ⟨by show getL.length ≤ 10; decide, by show ([] : List UInt8).length ≤ _; decide⟩
theorem i_ne {a b : Int} (h : a ≠ b) : (a == b) = false ∧ (a != b) = true := by simpa using h
theorem i_eq {a b : Int} (h : a = b) : (a == b) = true ∧ (a != b) = false := by subst h; simp

set_option maxRecDepth 10000 in
set_option maxHeartbeats 1000000 in
theorem written_a (t : Tgt) (hz : t.host.size + t.path.size + t.query.size ≤ 1000) (w : World) :
    Calls Try.prog 32 #[.agg #[.int .i64 t.form, .string t.host, .string t.path, .string t.query]] w (WAns w t) := by
  have hx1 := wr_1 (t := t)
  have hx2 := wr_2 (t := t)
  have hx3 := wr_3 (t := t)
  have hx4 := wr_4 (t := t)
  have hx0 := wr_0 (t := t)
  have HP := Lib.hid (fun w => wpath_a t (by omega) (by omega) w)
  have hts := textL_len t
  obtain ⟨tx, htx⟩ : ∃ tx, tx = ofL (textL t) := ⟨_, rfl⟩
  rw [← htx] at HP
  have htl : tx.data.toList = textL t := by rw [htx, ofL_list]
  have htz : tx.size ≤ 10000 := by rw [htx, ofL_size]; omega
  have HTX := Lib.hid htx
  have HTL := Lib.hid htl
  have HT := Lib.hid (show t = ⟨t.form, t.host, t.path, t.query⟩ from rfl)
  clear htx htl hts
  obtain ⟨f, hf⟩ : ∃ f, f = t.form := ⟨_, rfl⟩
  obtain ⟨h, hh⟩ : ∃ h, h = t.host := ⟨_, rfl⟩
  obtain ⟨p, hp⟩ : ∃ p, p = t.path := ⟨_, rfl⟩
  obtain ⟨q, hq⟩ : ∃ q, q = t.query := ⟨_, rfl⟩
  rw [← hf] at hx1 hx2 hx3 hx4 hx0
  rw [← hf, ← hh, ← hp, ← hq] at HP ⊢
  rw [← hh] at hx2 hx3
  rw [← hh, ← hp, ← hq] at hz
  have hhz : h.size ≤ 1000 := by omega
  clear hf hh hp hq HT hz
  by_cases h1 : f = 1
  · have HX := Lib.hid (hx1 h1)
    subst h1
    clear hx1 hx2 hx3 hx4 hx0
    go_enter Try.func32, Try.ntmps32
    go_upto_region 1 with fail
    obtain ⟨w1, hw1⟩ : ∃ w1, w1 = w.alloc (.cells #[.int .i64 1, .string h, .string p, .string q] 23) := ⟨_, rfl⟩
    obtain ⟨n0, hn0⟩ : ∃ n0, n0 = w.heap.size := ⟨_, rfl⟩
    have HB := Lib.hid (show Row w1 n0 23 #[.int .i64 1, .string h, .string p, .string q] by rw [hw1, hn0]; exact Row.new w _ _)
    have HM := Lib.hid (show Mods [] w w1 by rw [hw1]; exact (Mods.refl [] w).alloc _)
    rw [← hw1, ← hn0]
    clear hw1 hn0
    obtain ⟨c0, c1, c2, c3⟩ := HB.out.facts4
    go_wp2_with (go_at_call 50; refine (HP.out _).mono ?_; rintro e w2 ⟨rfl, hm⟩; have M2 := Lib.hid (HM.out.on hm); clear hm)
    go_ret2
    exact WAns.mk' HX.out rfl HTX.out M2.out
  · have e1 := (i_ne h1).1
    by_cases h2 : f = 2
    · have HX := Lib.hid (hx2 h2)
      subst h2
      have HJ := Lib.hid (fun w b hb => join3 ⟨#[104, 116, 116, 112, 58, 47, 47]⟩ h tx (by decide) (by omega) (by omega) w b hb)
      rw [HTL.out] at HJ
      clear hx1 hx2 hx3 hx4 hx0 h1
      go_enter Try.func32, Try.ntmps32
      go_upto_region 1 with fail
      obtain ⟨w1, hw1⟩ : ∃ w1, w1 = w.alloc (.cells #[.int .i64 2, .string h, .string p, .string q] 23) := ⟨_, rfl⟩
      obtain ⟨n0, hn0⟩ : ∃ n0, n0 = w.heap.size := ⟨_, rfl⟩
      have HB := Lib.hid (show Row w1 n0 23 #[.int .i64 2, .string h, .string p, .string q] by rw [hw1, hn0]; exact Row.new w _ _)
      have HM := Lib.hid (show Mods [] w w1 by rw [hw1]; exact (Mods.refl [] w).alloc _)
      rw [← hw1, ← hn0]
      clear hw1 hn0
      obtain ⟨c0, c1, c2, c3⟩ := HB.out.facts4
      go_upto_region 5 with fail
      go_region_held3 (fun w' => w'.cell? ⟨n0, 0, none⟩ = some (.int .i64 2) ∧ w'.cell? ⟨n0, 1, none⟩ = some (.string h) ∧ w'.cell? ⟨n0, 2, none⟩ = some (.string p) ∧ w'.cell? ⟨n0, 3, none⟩ = some (.string q)) (go_keep)
        (first
          | (go_at_call 50; refine (HP.out _).mono ?_; rintro e w2 ⟨rfl, hm0⟩; have hm : Mods [] w1 w2 := (by first | exact hm0 | exact of_drewT hm0); clear hm0; have R2 := Lib.hid (HB.out.mods hm (by simp)); obtain ⟨d0, d1, d2, d3⟩ := R2.out.facts4; have M2 := Lib.hid (HM.out.on hm); clear hm)
          | (go_at_call 47; refine Calls.mono (HJ.out _ _ (by simp)) ?_; rintro e w3 ⟨rfl, hm0⟩; have hm : Mods [] w2 w3 := (by first | exact hm0 | exact of_drewT hm0); clear hm0; have R3 := Lib.hid (R2.out.mods hm (by simp)); obtain ⟨g0, g1, g2, g3⟩ := R3.out.facts4; have M3 := Lib.hid (M2.out.on hm); clear hm))
      all_goals
        go_wp2
        go_ret2
        exact WAns.mk' HX.out rfl rfl M3.out
    · have e2 := (i_ne h2).1
      by_cases h3 : f = 3
      · have HX := Lib.hid (hx3 h3)
        subst h3
        have HC := Lib.hid (fun w => cloneK h (by omega) w)
        clear hx1 hx2 hx3 hx4 hx0 h1 h2
        go_enter Try.func32, Try.ntmps32
        go_upto_region 1 with fail
        obtain ⟨w1, hw1⟩ : ∃ w1, w1 = w.alloc (.cells #[.int .i64 3, .string h, .string p, .string q] 23) := ⟨_, rfl⟩
        obtain ⟨n0, hn0⟩ : ∃ n0, n0 = w.heap.size := ⟨_, rfl⟩
        have HB := Lib.hid (show Row w1 n0 23 #[.int .i64 3, .string h, .string p, .string q] by rw [hw1, hn0]; exact Row.new w _ _)
        have HM := Lib.hid (show Mods [] w w1 by rw [hw1]; exact (Mods.refl [] w).alloc _)
        rw [← hw1, ← hn0]
        clear hw1 hn0
        obtain ⟨c0, c1, c2, c3⟩ := HB.out.facts4
        go_wp2_with (go_at_call 45; refine (HC.out _).mono ?_; rintro e w2 ⟨rfl, hm⟩; have M2 := Lib.hid (HM.out.on hm); clear hm)
        go_ret2
        exact WAns.mk' HX.out rfl (ofL_data h).symm M2.out
      · have e3 := (i_ne h3).1
        by_cases h4 : f = 4
        · have HX := Lib.hid (hx4 h4)
          subst h4
          have HC := Lib.hid (fun w => cloneK ⟨#[42]⟩ (by decide) w)
          clear hx1 hx2 hx3 hx4 hx0 h1 h2 h3
          go_enter Try.func32, Try.ntmps32
          go_upto_region 1 with fail
          obtain ⟨w1, hw1⟩ : ∃ w1, w1 = w.alloc (.cells #[.int .i64 4, .string h, .string p, .string q] 23) := ⟨_, rfl⟩
          obtain ⟨n0, hn0⟩ : ∃ n0, n0 = w.heap.size := ⟨_, rfl⟩
          have HB := Lib.hid (show Row w1 n0 23 #[.int .i64 4, .string h, .string p, .string q] by rw [hw1, hn0]; exact Row.new w _ _)
          have HM := Lib.hid (show Mods [] w w1 by rw [hw1]; exact (Mods.refl [] w).alloc _)
          rw [← hw1, ← hn0]
          clear hw1 hn0
          obtain ⟨c0, c1, c2, c3⟩ := HB.out.facts4
          go_wp2_with (go_at_call 45; refine (HC.out _).mono ?_; rintro e w2 ⟨rfl, hm⟩; have M2 := Lib.hid (HM.out.on hm); clear hm)
          go_ret2
          exact WAns.mk' HX.out rfl rfl M2.out
        · have e4 := (i_ne h4).1
          have HX := Lib.hid (hx0 h1 h2 h3 h4)
          clear hx1 hx2 hx3 hx4 hx0 h1 h2 h3 h4
          go_enter Try.func32, Try.ntmps32
          go_upto_region 1 with fail
          obtain ⟨w1, hw1⟩ : ∃ w1, w1 = w.alloc (.cells #[.int .i64 f, .string h, .string p, .string q] 23) := ⟨_, rfl⟩
          obtain ⟨n0, hn0⟩ : ∃ n0, n0 = w.heap.size := ⟨_, rfl⟩
          have HB := Lib.hid (show Row w1 n0 23 #[.int .i64 f, .string h, .string p, .string q] by rw [hw1, hn0]; exact Row.new w _ _)
          have HM := Lib.hid (show Mods [] w w1 by rw [hw1]; exact (Mods.refl [] w).alloc _)
          rw [← hw1, ← hn0]
          clear hw1 hn0
          obtain ⟨c0, c1, c2, c3⟩ := HB.out.facts4
          go_wp2
          go_ret2
          exact WAns.mk' HX.out rfl rfl HM.out
end Go.Proofs.Ytgckpoecdaioiaa
