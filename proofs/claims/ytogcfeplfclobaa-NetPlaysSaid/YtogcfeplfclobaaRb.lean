/- What theirs, ours of the reference's net answer; Half, Reset, Shut. -/
import Derived.Test.YtogcfeplfclobaaRa
namespace Go.Proofs.Ytogcfeplfclobaa
open Go.RowKit
set_option maxRecDepth 10000
set_option linter.unusedVariables false
set_option linter.unusedSimpArgs false

theorem rtheirs_no (w : World) (g m : Nat) (F : List Nat) (S : Nt) (c : Int) (h : RefA w g F S m) (he : S.e1 c ≠ 0) :
    Calls Try.prog 63 #[.pointer (some ⟨g, 0, none⟩), .int .i64 c] w fun e w' => e = .returned (.tuple #[.pointer none, .int .i64 (S.e1 c)]) ∧ w = w' := by
  cases hs : S.at? c with
  | none =>
    have h2 : S.e1 c = 2 := by unfold Nt.e1; rw [hs]
    rw [h2]
    have hcc := Nt.at_none hs
    clear he hs h2
    obtain ⟨vl, vn, X, R, rfl, h⟩ := h
    obtain ⟨A, cc, rfl, -, -⟩ := h.slice
    have c1 := h.row.cell 1
    clear h
    by_cases h0 : c < 0
    · clear hcc
      go_enter Try.func63, Try.ntmps63
      go_wp2
      go_ret2
      exact ⟨rfl, rfl⟩
    · have h1 : (S.L.length : Int) ≤ c := by omega
      have h3 : decide ((S.L.length : Int) ≤ c) = true := by simpa using h1
      clear hcc
      go_enter Try.func63, Try.ntmps63
      go_wp2
      go_ret2
      exact ⟨rfl, rfl⟩
  | some s =>
    obtain ⟨i, rfl, h1, h2⟩ := Nt.at_some hs
    obtain ⟨vl, vn, X, R, rfl, h⟩ := h
    obtain ⟨x, r, hx, hr, rfl, hc, ha⟩ := h.at_ h1
    obtain ⟨A, cc, rfl, -, -⟩ := h.slice
    obtain ⟨b, o, rfl, ci⟩ := h.cell hx
    have c1 := h.row.cell 1
    have hl := h.ok.n2
    have d1 := hc.row.cell 1
    have d2 := hc.row.cell 2
    have d4 := hc.row.cell 4
    simp only [KR] at d1 d2 d4
    rw [ha.wts] at d1
    have hi2 : decide ((S.L.length : Int) ≤ (i : Int)) = false := by simp; omega
    have hi3 : decide ((i : Int) < 0) = false := by simp
    have hk1 : (0 : Int) ≤ (i : Int) := by omega
    have hk2 : (i : Int) < (S.L.length : Int) := by omega
    have he2 : S.e1 i = if r.c.brk then 5 else if decide ((i : Int) < S.first) && !r.c.opn then 6 else 0 := by unfold Nt.e1; rw [hs]
    clear h hx hr hs hc ha h1 h2
    cases hb : r.c.brk with
    | true =>
      rw [hb] at he2 d4
      rw [he2]
      clear he he2 hb
      simp only [if_true]
      go_enter Try.func63, Try.ntmps63
      go_wp2
      go_ret2
      exact ⟨rfl, rfl⟩
    | false =>
      rw [hb] at he2 d4
      by_cases hw : i < S.first
      · have hd1 : decide ((i : Int) < (S.first : Int)) = true := by simp; omega
        have hd2 : decide (S.first ≤ i) = false := by simp; omega
        rw [hd1] at he2
        rw [hd2] at d1
        cases ho : r.c.opn with
        | true => rw [ho] at he2; exact absurd he2 he
        | false =>
          rw [ho] at he2 d2
          rw [he2]
          clear he he2 hb ho hd1 hd2 hw
          simp only [Bool.false_eq_true, if_false, Bool.not_false, Bool.and_self, if_true]
          go_enter Try.func63, Try.ntmps63
          go_wp2
          go_ret2
          exact ⟨rfl, rfl⟩
      · have hd1 : decide ((i : Int) < (S.first : Int)) = false := by simp; omega
        rw [hd1] at he2
        exact absurd he2 he
theorem rtheirs_at (w : World) (g m i : Nat) (vl vn : Value) (X : List Cb) (R : List Rn) (S : Nt) (x : Cb) (r : Rn) (h : RefF w g vl vn X R S m) (hx : X[i]? = some x) (hr : R[i]? = some r) (hb : r.c.brk = false) (ho : (decide ((i : Int) < S.first) && !r.c.opn) = false) :
    Calls Try.prog 63 #[.pointer (some ⟨g, 0, none⟩), .int .i64 i] w fun e w' => e = .returned (.tuple #[.pointer (some ⟨x.b, 0, none⟩), .int .i64 0]) ∧ w = w' := by
  have hc := h.cs.at_ i x r hx hr
  have ha := h.st i r hr
  have h2 : i < S.L.length := by rw [← h.len]; exact (List.getElem?_eq_some_iff.1 hx).1
  obtain ⟨A, cc, rfl, -, -⟩ := h.slice
  obtain ⟨b, o, rfl, ci⟩ := h.cell hx
  have c1 := h.row.cell 1
  have hl := h.ok.n2
  have d1 := hc.row.cell 1
  have d2 := hc.row.cell 2
  have d4 := hc.row.cell 4
  simp only [KR] at d1 d2 d4
  rw [ha.wts] at d1
  rw [hb] at d4
  have hi2 : decide ((S.L.length : Int) ≤ (i : Int)) = false := by simp; omega
  have hi3 : decide ((i : Int) < 0) = false := by simp
  have hk1 : (0 : Int) ≤ (i : Int) := by omega
  have hk2 : (i : Int) < (S.L.length : Int) := by omega
  clear h hx hr hc ha h2 hb
  by_cases hw : i < S.first
  · have hd1 : decide ((i : Int) < (S.first : Int)) = true := by simp; omega
    have hd2 : decide (S.first ≤ i) = false := by simp; omega
    rw [hd1] at ho
    rw [hd2] at d1
    have ho : r.c.opn = true := by cases h : r.c.opn with
      | true => rfl
      | false => rw [h] at ho; cases ho
    rw [ho] at d2
    clear hd1 hd2 hw
    go_enter Try.func63, Try.ntmps63
    go_wp2
    go_ret2
    exact ⟨rfl, rfl⟩
  · have hd2 : decide (S.first ≤ i) = true := by simp; omega
    rw [hd2] at d1
    clear hd2 hw ho
    go_enter Try.func63, Try.ntmps63
    go_wp2
    go_ret2
    exact ⟨rfl, rfl⟩
theorem rours_no (w : World) (g m : Nat) (F : List Nat) (S : Nt) (c : Int) (h : RefA w g F S m) (he : S.e2 c ≠ 0) :
    Calls Try.prog 65 #[.pointer (some ⟨g, 0, none⟩), .int .i64 c] w fun e w' => e = .returned (.tuple #[.pointer none, .int .i64 (S.e2 c)]) ∧ w = w' := by
  cases hs : S.at? c with
  | none =>
    have h2 : S.e2 c = 2 := by unfold Nt.e2; rw [hs]
    rw [h2]
    have hcc := Nt.at_none hs
    clear he hs h2
    obtain ⟨vl, vn, X, R, rfl, h⟩ := h
    obtain ⟨A, cc, rfl, -, -⟩ := h.slice
    have c1 := h.row.cell 1
    clear h
    by_cases h0 : c < 0
    · clear hcc
      go_enter Try.func65, Try.ntmps65
      go_wp2
      go_ret2
      exact ⟨rfl, rfl⟩
    · have h1 : (S.L.length : Int) ≤ c := by omega
      have h3 : decide ((S.L.length : Int) ≤ c) = true := by simpa using h1
      clear hcc
      go_enter Try.func65, Try.ntmps65
      go_wp2
      go_ret2
      exact ⟨rfl, rfl⟩
  | some s =>
    obtain ⟨i, rfl, h1, h2⟩ := Nt.at_some hs
    obtain ⟨vl, vn, X, R, rfl, h⟩ := h
    obtain ⟨x, r, hx, hr, rfl, hc, ha⟩ := h.at_ h1
    obtain ⟨A, cc, rfl, -, -⟩ := h.slice
    obtain ⟨b, o, rfl, ci⟩ := h.cell hx
    have c1 := h.row.cell 1
    have hl := h.ok.n2
    have d1 := hc.row.cell 1
    have d2 := hc.row.cell 2
    have d4 := hc.row.cell 4
    simp only [KR] at d1 d2 d4
    rw [ha.wts] at d1
    have hi2 : decide ((S.L.length : Int) ≤ (i : Int)) = false := by simp; omega
    have hi3 : decide ((i : Int) < 0) = false := by simp
    have hk1 : (0 : Int) ≤ (i : Int) := by omega
    have hk2 : (i : Int) < (S.L.length : Int) := by omega
    have he2 : S.e2 i = if (S.first : Int) ≤ (i : Int) then 2 else if r.c.opn then (if r.c.brk then 5 else 0) else 6 := by unfold Nt.e2; rw [hs]
    clear h hx hr hs hc ha h1 h2
    by_cases hw : S.first ≤ i
    · have hd2 : decide (S.first ≤ i) = true := by simpa using hw
      rw [hd2] at d1
      rw [if_pos (by omega)] at he2
      rw [he2]
      clear he he2 hd2 d2 d4
      go_enter Try.func65, Try.ntmps65
      go_wp2
      go_ret2
      exact ⟨rfl, rfl⟩
    · have hd2 : decide (S.first ≤ i) = false := by simp; omega
      rw [hd2] at d1
      rw [if_neg (by omega)] at he2
      clear hd2
      cases ho : r.c.opn with
      | false =>
        rw [ho] at he2 d2
        rw [he2]
        clear he he2 ho
        simp only [Bool.false_eq_true, if_false]
        go_enter Try.func65, Try.ntmps65
        go_wp2
        go_ret2
        exact ⟨rfl, rfl⟩
      | true =>
        rw [ho] at he2 d2
        cases hb : r.c.brk with
        | false => rw [hb] at he2; exact absurd he2 he
        | true =>
          rw [hb] at he2 d4
          rw [he2]
          clear he he2 ho hb
          simp only [if_true]
          go_enter Try.func65, Try.ntmps65
          go_wp2
          go_ret2
          exact ⟨rfl, rfl⟩
theorem rours_at (w : World) (g m i : Nat) (vl vn : Value) (X : List Cb) (R : List Rn) (S : Nt) (x : Cb) (r : Rn) (h : RefF w g vl vn X R S m) (hx : X[i]? = some x) (hr : R[i]? = some r) (hb : r.c.brk = false) (ho : r.c.opn = true) (hi : i < S.first) :
    Calls Try.prog 65 #[.pointer (some ⟨g, 0, none⟩), .int .i64 i] w fun e w' => e = .returned (.tuple #[.pointer (some ⟨x.b, 0, none⟩), .int .i64 0]) ∧ w = w' := by
  have hc := h.cs.at_ i x r hx hr
  have ha := h.st i r hr
  have h2 : i < S.L.length := by rw [← h.len]; exact (List.getElem?_eq_some_iff.1 hx).1
  obtain ⟨A, cc, rfl, -, -⟩ := h.slice
  obtain ⟨b, o, rfl, ci⟩ := h.cell hx
  have c1 := h.row.cell 1
  have hl := h.ok.n2
  have d1 := hc.row.cell 1
  have d2 := hc.row.cell 2
  have d4 := hc.row.cell 4
  simp only [KR] at d1 d2 d4
  have hd2 : decide (S.first ≤ i) = false := by simp; omega
  rw [ha.wts, hd2] at d1
  rw [hb] at d4
  rw [ho] at d2
  have hi2 : decide ((S.L.length : Int) ≤ (i : Int)) = false := by simp; omega
  have hi3 : decide ((i : Int) < 0) = false := by simp
  have hk1 : (0 : Int) ≤ (i : Int) := by omega
  have hk2 : (i : Int) < (S.L.length : Int) := by omega
  clear h hx hr hc ha h2 hb ho hi hd2
  go_enter Try.func65, Try.ntmps65
  go_wp2
  go_ret2
  exact ⟨rfl, rfl⟩
theorem Ag.same {f i : Nat} {r r' : Rn} (h : Ag f i r) (h1 : r'.wts = r.wts) (h2 : r'.was = r.was) (h3 : r'.c.opn = r.c.opn) (h4 : r'.c.brk = r.c.brk ∨ r'.c.brk = true) (h5 : r.inn = r.c.inn → r'.inn = r'.c.inn) : Ag f i r' :=
  ⟨h1.trans h.wts, fun hq => h5 (h.inn (by rw [← h3]; exact hq)), fun hq => by
    rcases h4 with e | e
    · rw [h2]; exact h.was (by rw [← e]; exact hq)
    · rw [e] at hq; cases hq⟩
theorem rhalf_any (w : World) (g m : Nat) (F : List Nat) (S : Nt) (c : Int) (h : RefA w g F S m) (hm : m + 1 ≤ 900000000) :
    Calls Try.prog 40 #[.pointer (some ⟨g, 0, none⟩), .int .i64 c] w fun e w' => e = .returned (.int .i64 (S.e1 c)) ∧ Hid (RefTo w w' g F (S.half c) (m + 1)) := by
  by_cases he : S.e1 c = 0
  · rw [show S.half c = S.upd c (S.get c).half by unfold Nt.half; rw [if_pos he], he]
    obtain ⟨i, s, rfl, hs, hi, hg, hb, ho⟩ := Nt.e1_zero he
    rw [hg]
    obtain ⟨vl, vn, X, R, rfl, h⟩ := h
    obtain ⟨x, r, hx, hr, rfl, hc, ha⟩ := h.at_ hs
    have HT := Lib.hid (rtheirs_at w g m i vl vn X R S x r h hx hr hb ho)
    have c5 := hc.row.cell 5
    have c11 := hc.row.cell 11
    simp only [KR] at c5 c11
    have f0 := hc.row.free
    have hf := h.ok.at_ hs
    have HN := Lib.hid (fun (w' : World) (hq : CnTo KR w w' x { r with c := r.c.half }) => h.toC hx hr hq (ha.same rfl rfl rfl (.inl rfl) id) (h.ok.upd (n := m + 1) (by omega) hm (by simp only [Cn.half]; split <;> omega) fun hq => h.ok.op i _ hs hq))
    have HH := Lib.hid hc
    have hmr : r.c.mr ≤ 900000000 := by omega
    clear h hx hs hg hb ho hc hf he hi hr ha
    cases hv : r.c.hlv with
    | true =>
      rw [hv] at c5
      have HE := Lib.hid (show r.c.half = { r.c with hlv := true } by simp [Cn.half, hv])
      rw [HE.out] at HN
      clear hv
      go_enter Try.func40, Try.ntmps40
      go_wp2_with fail
      refine HT.out.mono ?_
      rintro e w' ⟨rfl, rfl⟩
      go_wp2
      go_ret
      rw [HE.out]
      exact ⟨rfl, Lib.hid (HN.out _ (CnTo.put (CnTo.refl HH.out) 5 (.bool true) (fun _ => rfl) (rbs_all rfl rfl rfl)))⟩
    | false =>
      rw [hv] at c5
      have HE := Lib.hid (show r.c.half = { r.c with hlv := true, mr := r.c.mr + 1 } by simp [Cn.half, hv])
      rw [HE.out] at HN
      clear hv
      go_enter Try.func40, Try.ntmps40
      go_wp2_with fail
      refine HT.out.mono ?_
      rintro e w' ⟨rfl, rfl⟩
      go_wp2
      go_ret
      rw [HE.out]
      exact ⟨rfl, Lib.hid (HN.out _ (CnTo.put (s := { r with c := { r.c with mr := r.c.mr + 1 } }) (CnTo.put (CnTo.refl HH.out) 11 _ (fun _ => rfl) (rbs_all rfl rfl rfl)) 5 (.bool true) (fun _ => rfl) (rbs_all rfl rfl rfl)))⟩
  · rw [show S.half c = S by unfold Nt.half; rw [if_neg he]]
    have HT := Lib.hid (rtheirs_no w g m F S c h he)
    have HN := Lib.hid (RefTo.same (h.more (n := m + 1) (by omega) (by first | exact hm | exact h.ok.mm)) (Mods.refl [] w))
    obtain ⟨e0, he0⟩ : ∃ e0, e0 = S.e1 c := ⟨_, rfl⟩
    rw [← he0] at HT he ⊢
    have hne : (e0 != 0) = true := by simpa using he
    clear h he he0
    go_enter Try.func40, Try.ntmps40
    go_wp2_with fail
    refine HT.out.mono ?_
    rintro e w' ⟨rfl, rfl⟩
    go_wp2
    go_ret
    exact ⟨rfl, HN⟩
theorem rreset_any (w : World) (g m : Nat) (F : List Nat) (S : Nt) (c : Int) (h : RefA w g F S m) (hm : m + 1 ≤ 900000000) :
    Calls Try.prog 41 #[.pointer (some ⟨g, 0, none⟩), .int .i64 c] w fun e w' => e = .returned (.int .i64 (S.e1 c)) ∧ Hid (RefTo w w' g F (S.reset c) (m + 1)) := by
  by_cases he : S.e1 c = 0
  · rw [show S.reset c = S.upd c (S.get c).reset by unfold Nt.reset; rw [if_pos he], he]
    obtain ⟨i, s, rfl, hs, hi, hg, hb, ho⟩ := Nt.e1_zero he
    rw [hg]
    obtain ⟨vl, vn, X, R, rfl, h⟩ := h
    obtain ⟨x, r, hx, hr, rfl, hc, ha⟩ := h.at_ hs
    have HT := Lib.hid (rtheirs_at w g m i vl vn X R S x r h hx hr hb ho)
    have HB := Lib.hid (breaks_any w x r hc)
    have hf := h.ok.at_ hs
    have HN := Lib.hid (fun (w' : World) (hq : CnTo KR w w' x { r with c := r.c.reset, inn := [] }) => h.toC hx hr hq (ha.same rfl rfl rfl (.inr rfl) (fun _ => rfl)) (h.ok.upd (n := m + 1) (by omega) hm (by simp only [Cn.reset, Cn.break_]; simp; omega) fun hq => h.ok.op i _ hs hq))
    have hmr : r.c.mr ≤ 900000000 := by omega
    have hmw : r.c.mw ≤ 900000000 := by omega
    clear h hx hs hg hb ho hc hf he hi hr ha
    go_enter Try.func41, Try.ntmps41
    go_wp2_with fail
    refine HT.out.mono ?_
    rintro e w' ⟨rfl, rfl⟩
    go_wp2_with fail
    refine HB.out.mono ?_
    rintro e w1 ⟨rfl, hq⟩
    have HQ := Lib.hid hq.out
    obtain ⟨x1, h1, h2, -, -⟩ := hq.out
    have c11 := h1.row.cell 11
    have c12 := h1.row.cell 12
    rw [h2] at c11 c12
    simp only [KR, Cn.break_] at c11 c12
    have f0 := h1.row.free
    rw [h2] at f0
    clear h1 h2 hq
    go_wp2
    go_ret
    refine ⟨rfl, Lib.hid (HN.out _ ?_)⟩
    exact CnTo.put (s := { r with c := { r.c.break_ with mr := r.c.mr + 1 }, inn := [] }) (CnTo.put HQ.out 11 _ (fun _ => rfl) (rbs_all rfl rfl rfl)) 12 _ (fun _ => rfl) (rbs_all rfl rfl rfl)
  · rw [show S.reset c = S by unfold Nt.reset; rw [if_neg he]]
    have HT := Lib.hid (rtheirs_no w g m F S c h he)
    have HN := Lib.hid (RefTo.same (h.more (n := m + 1) (by omega) (by first | exact hm | exact h.ok.mm)) (Mods.refl [] w))
    obtain ⟨e0, he0⟩ : ∃ e0, e0 = S.e1 c := ⟨_, rfl⟩
    rw [← he0] at HT he ⊢
    have hne : (e0 != 0) = true := by simpa using he
    clear h he he0
    go_enter Try.func41, Try.ntmps41
    go_wp2_with fail
    refine HT.out.mono ?_
    rintro e w' ⟨rfl, rfl⟩
    go_wp2
    go_ret
    exact ⟨rfl, HN⟩
theorem rshut_any (w : World) (g m : Nat) (F : List Nat) (S : Nt) (c : Int) (h : RefA w g F S m) :
    Calls Try.prog 46 #[.pointer (some ⟨g, 0, none⟩), .int .i64 c] w fun e w' => e = .returned (.int .i64 (S.e2 c)) ∧ Hid (RefTo w w' g F (S.shut c) m) := by
  by_cases he : S.e2 c = 0
  · rw [show S.shut c = S.upd c { S.get c with sht := true } by unfold Nt.shut; rw [if_pos he], he]
    obtain ⟨i, s, rfl, hs, hi, hg, hb, ho, hfi⟩ := Nt.e2_zero he
    rw [hg]
    obtain ⟨vl, vn, X, R, rfl, h⟩ := h
    obtain ⟨x, r, hx, hr, rfl, hc, ha⟩ := h.at_ hs
    have HT := Lib.hid (rours_at w g m i vl vn X R S x r h hx hr hb ho hfi)
    have hf := h.ok.at_ hs
    have HN := Lib.hid (fun (w' : World) (hq : CnTo KR w w' x { r with c := { r.c with sht := true } }) => h.toC hx hr hq (ha.same rfl rfl rfl (.inl rfl) id) (h.ok.upd (n := m) (by omega) h.ok.mm hf fun hq => h.ok.op i _ hs hq))
    have c6 := hc.row.cell 6
    simp only [KR] at c6
    have f0 := hc.row.free
    have HH := Lib.hid hc
    clear h hx hs hg hb ho hc hf he hi hr ha
    go_enter Try.func46, Try.ntmps46
    go_wp2_with fail
    refine HT.out.mono ?_
    rintro e w' ⟨rfl, rfl⟩
    go_wp2
    go_ret
    exact ⟨rfl, Lib.hid (HN.out _ (CnTo.put (CnTo.refl HH.out) 6 (.bool true) (fun _ => rfl) (rbs_all rfl rfl rfl)))⟩
  · rw [show S.shut c = S by unfold Nt.shut; rw [if_neg he]]
    have HT := Lib.hid (rours_no w g m F S c h he)
    have HN := Lib.hid (RefTo.same (h.more (n := m) (by omega) (by first | exact hm | exact h.ok.mm)) (Mods.refl [] w))
    obtain ⟨e0, he0⟩ : ∃ e0, e0 = S.e2 c := ⟨_, rfl⟩
    rw [← he0] at HT he ⊢
    have hne : (e0 == 0) = false := by simpa using he
    clear h he he0
    go_enter Try.func46, Try.ntmps46
    go_wp2_with fail
    refine HT.out.mono ?_
    rintro e w' ⟨rfl, rfl⟩
    go_wp2
    go_ret
    exact ⟨rfl, HN⟩
end Go.Proofs.Ytogcfeplfclobaa
