/- The document's size lines and trailers. Conditions: texts of at most a thousand bytes. -/
import Derived.Test.YtgkhelbpccehcaaGreatDoorMQH
import Derived.Test.YtgkhelbpccehcaaGreatDoorMQA
import Derived.Test.YtgkhelbpccehcaaGreatDoorMQB
import Derived.Deep.RegionLaw
import Derived.Test.YtgkhelbpccehcaaGreatDoorSame
import Derived.Test.YtgkhelbpccehcaaGreatDoorMQG
import Derived.Deep.CutBlock
import Derived.Test.YtgkhelbpccehcaaGreatDoorMQF
import Derived.Test.YtgkhelbpccehcaaGreatDoorMQD
namespace Go.Proofs.YtgkhelbpccehcaaGreatDoor
open Go.RowKit
set_option linter.unusedVariables false
set_option linter.unusedSimpArgs false

/-- What a byte has made of the document's reader. -/
def TookXc (g : Nat) (vl vb vt : Value) (w : World) (r : ChP) (w' : World) : Prop :=
  ∃ ul ub ut L state left e, CkX g ul ub ut w' L state left e r.body r.trail r.whole r.status ∧ RelX r L state left e ∧ Grew (rdb g vl vb vt) (rdb g ul ub ut) w w'
theorem TookXc.since {g : Nat} {vl ul vb ub vt ut : Value} {w w1 w' : World} {r : ChP} (h : TookXc g ul ub ut w1 r w') (hg : Grew (rdb g vl vb vt) (rdb g ul ub ut) w w1) : TookXc g vl vb vt w r w' := by
  obtain ⟨xl, xb, xt, L, state, left, e, c, hr, hg2⟩ := h
  exact ⟨xl, xb, xt, L, state, left, e, c, hr, hg.trans hg2⟩
theorem tookX_bad {g : Nat} {vl vb vt : Value} {w w1 : World} {r : ChP} {L : List UInt8} {state left e : Nat} (c : CkX g vl vb vt w1 L state left e r.body r.trail false 0) (hw : r.whole = false) (hg : Grew (rdb g vl vb vt) (rdb g vl vb vt) w w1) (n : Int) (hn : n ≠ 0) : TookXc g vl vb vt w { r with status := n } (w1.setCell ⟨g, 3, none⟩ (.int .i64 n)) :=
  ⟨vl, vb, vt, L, state, left, e, (show CkX g vl vb vt _ L state left e r.body r.trail r.whole n from by rw [hw]; exact c.set (cs' := rfCells state left e false n) 3 (.int .i64 n) rfl), fun h => absurd (done_no h).2 hn, hg.trans (c.set_grew 3 _)⟩
theorem szO_out {l : List UInt8} {k : Nat} (h : (hxs l).length = k) (hk : k < 1 ∨ 6 < k) : szO l = (0, false) := by unfold szO; rw [h, if_pos hk]
theorem szO_par {l : List UInt8} {k : Nat} (h : (hxs l).length = k) (hk : ¬ (k < 1 ∨ 6 < k)) (hp : parsL (l.drop k) = none) : szO l = (0, false) := by unfold szO; rw [h, if_neg hk, if_pos hp]
theorem szO_yes {l : List UInt8} {k : Nat} (h : (hxs l).length = k) (hk : ¬ (k < 1 ∨ 6 < k)) (hp : parsL (l.drop k) ≠ none) : szO l = (hxn l, true) := by unfold szO; rw [h, if_neg hk, if_neg hp]
theorem digR_hx (c : UInt8) : (isHx c = true → 0 ≤ digR c) ∧ (isHx c = false → digR c < 0) := by
  rw [digR_eq]
  unfold isHx
  have := digB_le c
  constructor
  · intro h
    have := of_decide_eq_true h
    rw [if_neg (by omega)]; omega
  · intro h
    have := of_decide_eq_false h
    rw [if_pos (by omega)]; omega
theorem hexR14 (s : ByteArray) (w : World) (hs : s.size ≤ 1000000) {p : Int × Bool} (h : numB 16 12 s.data.toList = p) : Calls Tryz.prog 94 #[.string s] w fun e w' => e = .returned (.tuple #[.int .i64 p.1, .bool p.2]) ∧ w = w' := by
  have HN := Lib.hid (num_r s 16 12 w (by unfold maxLen; omega) (by decide) (by decide) pwSz (by decide))
  have HP := Lib.hid h
  clear h
  go_enter Tryz.func94, Tryz.ntmps94
  go_wp2_with (go_at_call 114; refine HN.out.mono ?_; rw [HP.out]; rintro e w' ⟨rfl, rfl⟩)
  go_ret2
  exact ⟨rfl, rfl⟩
theorem params_rb (s : ByteArray) (w : World) (hs : s.size ≤ 1000000) {r : Bool} (hr : (parsL s.data.toList).isSome = r) : Calls Tryz.prog 95 #[.string s] w fun e w' => ∃ a n c, e = .returned (.tuple #[.slice a n c, .bool r]) ∧ Mods [] w w' :=
  (refparams s w hs).mono fun e w' h => by
    obtain ⟨hb, h⟩ := h
    subst hr
    cases hp : parsL s.data.toList with
    | none => rw [hp] at h; exact ⟨none, 0, 0, h, Mods.of_below hb⟩
    | some ps =>
      rw [hp] at h
      obtain ⟨v, he, ho⟩ := h
      rcases ho.2 with ⟨rfl, _⟩ | ⟨g, cap, cur, rfl, _⟩
      · exact ⟨none, 0, 0, he, Mods.of_below hb⟩
      · exact ⟨_, _, _, he, Mods.of_below hb⟩
set_option maxRecDepth 10000 in
set_option maxHeartbeats 2000000 in
theorem size_x {g : Nat} {vl vb vt : Value} {w : World} {r : ChP} {left : Nat} (s : ByteArray) (hs : s.size ≤ 1000000) (c : CkX g vl vb vt w [] 0 left r.ends r.body r.trail false 0) (o : ChOk r) (h0 : r.state = 0) (hl : r.line = []) (hw : r.whole = false) (hst : r.status = 0) {r' : ChP} (hr : sizeP r s.data.toList = r') :
    Calls Tryz.prog 67 #[ptr g, .string s] w fun z w' => z = .returned (.tuple #[]) ∧ Hid (TookXc g vl vb vt w r' w') := by
  obtain ⟨l, hls⟩ : ∃ l, l = s.data.toList := ⟨_, rfl⟩
  have HL := Lib.hid hls
  have HLE := Lib.hid (show (hxs l).length ≤ s.size by have := hxs_le l; rw [hls] at this ⊢; exact this)
  rw [← hls] at hr
  have hx := szO_lt (l := l)
  have hb := o.body
  obtain ⟨A, cp, rfl, -, -⟩ := c.body.form
  have C := Lib.hid c
  have D := Lib.hid (show ∀ w1, Mods [] w w1 → w1.cell? ⟨g, 0, none⟩ = some (.slice A r.body.length cp) ∧ w1.cell? ⟨g, 3, none⟩ = some (.int .i64 0) ∧ w1.frozen? ⟨g, 3, none⟩ = false ∧ w1.cell? ⟨g, 4, none⟩ = some (.int .i64 (0 : Nat)) ∧ w1.frozen? ⟨g, 4, none⟩ = false ∧ w1.cell? ⟨g, 6, none⟩ = some (.int .i64 left) ∧ w1.frozen? ⟨g, 6, none⟩ = false from fun w1 hm =>
    have k := c.low hm
    ⟨(CkX.facts k).1, (CkX.facts k).2.2.2.1, k.row.free 3, (CkX.facts k).2.2.2.2.1, k.row.free 4, (CkX.facts k).2.2.2.2.2.2.1, k.row.free 6⟩)
  have HR := Lib.hid hr
  have HF := Lib.hid (And.intro hw (And.intro hst (And.intro h0 hl)))
  obtain ⟨nb, hnb⟩ : ∃ nb, nb = r.body.length := ⟨_, rfl⟩
  rw [← hnb] at hb D
  have HN := Lib.hid hnb
  have HX := Lib.hid hx
  clear c hr hw hst h0 hl o hnb hls hx
  unfold ptr
  go_enter Tryz.func67, Tryz.ntmps67
  go_wp2
  go_loopw [4] (fun i wr => ∃ (k : Nat), k ≤ s.size ∧ i = .int .i64 k ∧ k ≤ (hxs l).length ∧ w = wr) (fun i _ => s.size - (intOf i).toNat)
  case atStart => exact ⟨0, Nat.zero_le _, rfl, Nat.zero_le _, rfl⟩
  case round =>
    obtain ⟨k, hk, rfl, hkx, rfl⟩ := hrel
    have HKX := Lib.hid hkx
    clear hkx
    by_cases hgo : k < s.size ∧ ∃ h : k < s.size, isHx s[k] = true
    · obtain ⟨hlt, _, hx⟩ := hgo
      have hkl : k < l.length := by rw [HL.out]; exact hlt
      have hlk : l[k] = s[k] := by have := HL.out; subst this; rfl
      have HM := Lib.hid (hx_more (p := isHx) hkl HKX.out (by rw [hlk]; exact hx))
      have hd := (digR_hx s[k]).1 hx
      clear hx hlk hkl
      go_wp2_with (go_at_call 93; refine (dig_r _ _).mono ?_; rintro e w' ⟨rfl, rfl⟩)
      go_roundw
      case rel => exact ⟨k + 1, by omega, by go_num, HM.out, by first | rfl | trivial⟩
      case measure => simp [intOf]; omega
    · have hn : (hxs l).length = k := by
        by_cases hlt : k < s.size
        · have hkl : k < l.length := by rw [HL.out]; exact hlt
          have hlk : l[k] = s[k] := by have := HL.out; subst this; rfl
          refine hx_stop (p := isHx) hkl HKX.out ?_
          rw [hlk]
          cases hx : isHx s[k] with
          | false => rfl
          | true => exact absurd ⟨hlt, hlt, hx⟩ hgo
        · have := HLE.out; have := HKX.out; omega
      have hex : ¬ k < s.size ∨ ∃ h : k < s.size, digR s[k] < 0 := by
        rcases (by omega : ¬ k < s.size ∨ k < s.size) with h | h
        · exact .inl h
        · refine .inr ⟨h, ?_⟩
          cases hx : isHx s[k] with
          | false => exact (digR_hx s[k]).2 hx
          | true => exact absurd ⟨h, h, hx⟩ hgo
      have h0l : (s.extract 0 k).data.toList = hxs l := by
        rw [ByteArray.data_extract, Array.toList_extract]
        simp only [List.extract, List.drop_zero, Nat.sub_zero]
        rw [← HL.out, ← hn]; exact hxs_take l
      have h1l : (s.extract k s.size).data.toList = l.drop k := by rw [ext_drop, HL.out]
      have HZ0 := Lib.hid (Nat.le_trans (ext_sizeF s 0 k) hs)
      have HZ1 := Lib.hid (Nat.le_trans (ext_sizeF s k s.size) hs)
      have H0L := Lib.hid h0l
      have H1L := Lib.hid h1l
      have HH := Lib.hid hn
      clear hgo hn h0l h1l
      rcases hex with hex | ⟨hlt, hd⟩
      · go_upto_region 3 with fail
        by_cases hout : k < 1 ∨ 6 < k
        · have HE := Lib.hid (show r' = { r with status := 400 } by rw [← HR.out]; exact sizeP_bad (by rw [szO_out HH.out hout]))
          obtain ⟨-, d3, f3, -, -, -, -⟩ := D.out w (Mods.refl _ _)
          rcases hout with h1 | h1
          · have h2 : ((k : Int) < 1) := by omega
            go_wp2
            refine bodyPost_ret (results_none rfl _ _ _) rfl ?_
            exact ⟨rfl, Lib.hid (by rw [HE.out]; exact tookX_bad C.out HF.out.1 (Grew.refl _ _) 400 (by decide))⟩
          · have h2 : ¬ ((k : Int) < 1) := by omega
            go_wp2
            refine bodyPost_ret (results_none rfl _ _ _) rfl ?_
            exact ⟨rfl, Lib.hid (by rw [HE.out]; exact tookX_bad C.out HF.out.1 (Grew.refl _ _) 400 (by decide))⟩
        · have hv := hx_num (l := l) (by rw [HH.out]; omega) (by rw [HH.out]; omega)
          have HHX := Lib.hid (fun w => hexR14 (s.extract 0 k) w HZ0.out (p := ((hxn l : Int), true)) (by rw [H0L.out]; exact hv.1))
          have HO := Lib.hid hout
          have h1 : ¬ k < 1 := fun h => hout (.inl h)
          have h6 : ¬ 6 < k := fun h => hout (.inr h)
          have hxb := hv.2 (by rw [HH.out]; omega)
          clear hv hout
          cases hpl : parsL (l.drop k) with
          | none =>
            have HE := Lib.hid (show r' = { r with status := 400 } by rw [← HR.out]; exact sizeP_bad (by rw [szO_par HH.out HO.out hpl]))
            have HPP := Lib.hid (fun w => params_rb (s.extract k s.size) w HZ1.out (r := false) (by rw [H1L.out, hpl]; rfl))
            clear hpl
            generalize hxn l = x at *
            go_wp2_with (first
              | (go_at_call 94; refine (HHX.out _).mono ?_; rintro e w' ⟨rfl, rfl⟩)
              | (go_at_call 95; refine (HPP.out _).mono ?_; rintro e w1 ⟨pa, pn, pc, rfl, hm⟩; have M1 := Lib.hid hm; obtain ⟨-, d3, f3, -, -, -, -⟩ := D.out w1 hm; clear hm))
            go_end0
            exact ⟨rfl, Lib.hid (by rw [HE.out]; exact tookX_bad (C.out.low M1.out) HF.out.1 (Grew.of_low M1.out) 400 (by decide))⟩
          | some ps =>
            have HSZ := Lib.hid (szO_yes HH.out HO.out (by rw [hpl]; simp))
            have HPP := Lib.hid (fun w => params_rb (s.extract k s.size) w HZ1.out (r := true) (by rw [H1L.out, hpl]; rfl))
            clear hpl
            obtain ⟨x, hx⟩ : ∃ x, x = hxn l := ⟨_, rfl⟩
            rw [← hx] at HSZ HHX hxb
            clear hx
            by_cases hmuch : 2048 < nb + x
            · have HE := Lib.hid (show r' = { r with status := 413 } by rw [← HR.out]; exact sizeP_much (by rw [HSZ.out]) (by rw [HSZ.out, ← HN.out]; exact hmuch))
              have hd2 : (2048 : Int) < (nb : Int) + (x : Int) := by omega
              clear hmuch
              go_wp2_with (first
                | (go_at_call 94; refine (HHX.out _).mono ?_; rintro e w' ⟨rfl, rfl⟩)
                | (go_at_call 95; refine (HPP.out _).mono ?_; rintro e w1 ⟨pa, pn, pc, rfl, hm⟩; have M1 := Lib.hid hm; obtain ⟨d0, d3, f3, -, -, -, -⟩ := D.out w1 hm; clear hm))
              go_end0
              exact ⟨rfl, Lib.hid (by rw [HE.out]; exact tookX_bad (C.out.low M1.out) HF.out.1 (Grew.of_low M1.out) 413 (by decide))⟩
            · have hd2 : ¬ (2048 : Int) < (nb : Int) + (x : Int) := by omega
              by_cases hx0 : x = 0
              · have HE := Lib.hid (show r' = { r with state := 3 } by rw [← HR.out]; exact sizeP_last (by rw [HSZ.out]) (by rw [HSZ.out, ← HN.out]; exact hmuch) (by rw [HSZ.out]; exact hx0))
                subst hx0
                clear hmuch
                go_wp2_with (first
                  | (go_at_call 94; refine (HHX.out _).mono ?_; rintro e w' ⟨rfl, rfl⟩)
                  | (go_at_call 95; refine (HPP.out _).mono ?_; rintro e w1 ⟨pa, pn, pc, rfl, hm⟩; have M1 := Lib.hid hm; obtain ⟨d0, -, -, d4, f4, -, -⟩ := D.out w1 hm; clear hm))
                go_end0
                refine ⟨rfl, Lib.hid ?_⟩
                rw [HE.out]
                have kk := C.out.low M1.out
                exact ⟨_, _, vt, [], 3, left, r.ends, (show CkX g _ _ vt _ [] 3 left r.ends r.body r.trail r.whole r.status from by rw [HF.out.1, HF.out.2.1]; exact kk.set (cs' := rfCells 3 left r.ends false 0) 4 (.int .i64 3) rfl), fun _ => ⟨HF.out.2.2.2.symm, rfl, (fun h => by cases h), rfl⟩, (Grew.of_low M1.out).trans (kk.set_grew 4 _)⟩
              · have HE := Lib.hid (show r' = { r with state := 1, left := x } by rw [← HR.out, sizeP_more (by rw [HSZ.out]) (by rw [HSZ.out, ← HN.out]; exact hmuch) (by rw [HSZ.out]; exact hx0), HSZ.out])
                have hxb2 : ((x : Int) == 0) = false := by rw [beq_eq_false_iff_ne]; omega
                clear hmuch
                go_wp2_with (first
                  | (go_at_call 94; refine (HHX.out _).mono ?_; rintro e w' ⟨rfl, rfl⟩)
                  | (go_at_call 95; refine (HPP.out _).mono ?_; rintro e w1 ⟨pa, pn, pc, rfl, hm⟩; have M1 := Lib.hid hm; obtain ⟨d0, -, -, d4, f4, d6, f6⟩ := D.out w1 hm; clear hm))
                go_end0
                refine ⟨rfl, Lib.hid ?_⟩
                rw [HE.out]
                have kk := C.out.low M1.out
                have k2 := kk.set (cs' := rfCells 1 left r.ends false 0) 4 (.int .i64 1) rfl
                exact ⟨_, _, vt, [], 1, x, r.ends, (show CkX g _ _ vt _ [] 1 x r.ends r.body r.trail r.whole r.status from by rw [HF.out.1, HF.out.2.1]; exact k2.set (cs' := rfCells 1 x r.ends false 0) 6 (.int .i64 (x : Int)) rfl), fun _ => ⟨HF.out.2.2.2.symm, rfl, (fun _ => rfl), rfl⟩, ((Grew.of_low M1.out).trans (kk.set_grew 4 _)).trans (k2.set_grew 6 _)⟩
      · go_upto_region 3 with (go_at_call 93; refine (dig_r _ _).mono ?_; rintro e w' ⟨rfl, rfl⟩)
        clear hd
        by_cases hout : k < 1 ∨ 6 < k
        · have HE := Lib.hid (show r' = { r with status := 400 } by rw [← HR.out]; exact sizeP_bad (by rw [szO_out HH.out hout]))
          obtain ⟨-, d3, f3, -, -, -, -⟩ := D.out w (Mods.refl _ _)
          rcases hout with h1 | h1
          · have h2 : ((k : Int) < 1) := by omega
            go_wp2
            refine bodyPost_ret (results_none rfl _ _ _) rfl ?_
            exact ⟨rfl, Lib.hid (by rw [HE.out]; exact tookX_bad C.out HF.out.1 (Grew.refl _ _) 400 (by decide))⟩
          · have h2 : ¬ ((k : Int) < 1) := by omega
            go_wp2
            refine bodyPost_ret (results_none rfl _ _ _) rfl ?_
            exact ⟨rfl, Lib.hid (by rw [HE.out]; exact tookX_bad C.out HF.out.1 (Grew.refl _ _) 400 (by decide))⟩
        · have hv := hx_num (l := l) (by rw [HH.out]; omega) (by rw [HH.out]; omega)
          have HHX := Lib.hid (fun w => hexR14 (s.extract 0 k) w HZ0.out (p := ((hxn l : Int), true)) (by rw [H0L.out]; exact hv.1))
          have HO := Lib.hid hout
          have h1 : ¬ k < 1 := fun h => hout (.inl h)
          have h6 : ¬ 6 < k := fun h => hout (.inr h)
          have hxb := hv.2 (by rw [HH.out]; omega)
          clear hv hout
          cases hpl : parsL (l.drop k) with
          | none =>
            have HE := Lib.hid (show r' = { r with status := 400 } by rw [← HR.out]; exact sizeP_bad (by rw [szO_par HH.out HO.out hpl]))
            have HPP := Lib.hid (fun w => params_rb (s.extract k s.size) w HZ1.out (r := false) (by rw [H1L.out, hpl]; rfl))
            clear hpl
            generalize hxn l = x at *
            go_wp2_with (first
              | (go_at_call 94; refine (HHX.out _).mono ?_; rintro e w' ⟨rfl, rfl⟩)
              | (go_at_call 95; refine (HPP.out _).mono ?_; rintro e w1 ⟨pa, pn, pc, rfl, hm⟩; have M1 := Lib.hid hm; obtain ⟨-, d3, f3, -, -, -, -⟩ := D.out w1 hm; clear hm))
            go_end0
            exact ⟨rfl, Lib.hid (by rw [HE.out]; exact tookX_bad (C.out.low M1.out) HF.out.1 (Grew.of_low M1.out) 400 (by decide))⟩
          | some ps =>
            have HSZ := Lib.hid (szO_yes HH.out HO.out (by rw [hpl]; simp))
            have HPP := Lib.hid (fun w => params_rb (s.extract k s.size) w HZ1.out (r := true) (by rw [H1L.out, hpl]; rfl))
            clear hpl
            obtain ⟨x, hx⟩ : ∃ x, x = hxn l := ⟨_, rfl⟩
            rw [← hx] at HSZ HHX hxb
            clear hx
            by_cases hmuch : 2048 < nb + x
            · have HE := Lib.hid (show r' = { r with status := 413 } by rw [← HR.out]; exact sizeP_much (by rw [HSZ.out]) (by rw [HSZ.out, ← HN.out]; exact hmuch))
              have hd2 : (2048 : Int) < (nb : Int) + (x : Int) := by omega
              clear hmuch
              go_wp2_with (first
                | (go_at_call 94; refine (HHX.out _).mono ?_; rintro e w' ⟨rfl, rfl⟩)
                | (go_at_call 95; refine (HPP.out _).mono ?_; rintro e w1 ⟨pa, pn, pc, rfl, hm⟩; have M1 := Lib.hid hm; obtain ⟨d0, d3, f3, -, -, -, -⟩ := D.out w1 hm; clear hm))
              go_end0
              exact ⟨rfl, Lib.hid (by rw [HE.out]; exact tookX_bad (C.out.low M1.out) HF.out.1 (Grew.of_low M1.out) 413 (by decide))⟩
            · have hd2 : ¬ (2048 : Int) < (nb : Int) + (x : Int) := by omega
              by_cases hx0 : x = 0
              · have HE := Lib.hid (show r' = { r with state := 3 } by rw [← HR.out]; exact sizeP_last (by rw [HSZ.out]) (by rw [HSZ.out, ← HN.out]; exact hmuch) (by rw [HSZ.out]; exact hx0))
                subst hx0
                clear hmuch
                go_wp2_with (first
                  | (go_at_call 94; refine (HHX.out _).mono ?_; rintro e w' ⟨rfl, rfl⟩)
                  | (go_at_call 95; refine (HPP.out _).mono ?_; rintro e w1 ⟨pa, pn, pc, rfl, hm⟩; have M1 := Lib.hid hm; obtain ⟨d0, -, -, d4, f4, -, -⟩ := D.out w1 hm; clear hm))
                go_end0
                refine ⟨rfl, Lib.hid ?_⟩
                rw [HE.out]
                have kk := C.out.low M1.out
                exact ⟨_, _, vt, [], 3, left, r.ends, (show CkX g _ _ vt _ [] 3 left r.ends r.body r.trail r.whole r.status from by rw [HF.out.1, HF.out.2.1]; exact kk.set (cs' := rfCells 3 left r.ends false 0) 4 (.int .i64 3) rfl), fun _ => ⟨HF.out.2.2.2.symm, rfl, (fun h => by cases h), rfl⟩, (Grew.of_low M1.out).trans (kk.set_grew 4 _)⟩
              · have HE := Lib.hid (show r' = { r with state := 1, left := x } by rw [← HR.out, sizeP_more (by rw [HSZ.out]) (by rw [HSZ.out, ← HN.out]; exact hmuch) (by rw [HSZ.out]; exact hx0), HSZ.out])
                have hxb2 : ((x : Int) == 0) = false := by rw [beq_eq_false_iff_ne]; omega
                clear hmuch
                go_wp2_with (first
                  | (go_at_call 94; refine (HHX.out _).mono ?_; rintro e w' ⟨rfl, rfl⟩)
                  | (go_at_call 95; refine (HPP.out _).mono ?_; rintro e w1 ⟨pa, pn, pc, rfl, hm⟩; have M1 := Lib.hid hm; obtain ⟨d0, -, -, d4, f4, d6, f6⟩ := D.out w1 hm; clear hm))
                go_end0
                refine ⟨rfl, Lib.hid ?_⟩
                rw [HE.out]
                have kk := C.out.low M1.out
                have k2 := kk.set (cs' := rfCells 1 left r.ends false 0) 4 (.int .i64 1) rfl
                exact ⟨_, _, vt, [], 1, x, r.ends, (show CkX g _ _ vt _ [] 1 x r.ends r.body r.trail r.whole r.status from by rw [HF.out.1, HF.out.2.1]; exact k2.set (cs' := rfCells 1 x r.ends false 0) 6 (.int .i64 (x : Int)) rfl), fun _ => ⟨HF.out.2.2.2.symm, rfl, (fun _ => rfl), rfl⟩, ((Grew.of_low M1.out).trans (kk.set_grew 4 _)).trans (k2.set_grew 6 _)⟩
set_option maxRecDepth 10000 in
set_option maxHeartbeats 2000000 in
theorem trailer_x {g : Nat} {vl vb vt : Value} {w : World} {r : ChP} {left : Nat} (l : List UInt8) (hlen : l.length ≤ 1000) (s : ByteArray) (hs : s = ofL l) (c : CkX g vl vb vt w [] 3 left r.ends r.body r.trail false 0) (o : ChOk r) (h3 : r.state = 3) (hl : r.line = []) (hw : r.whole = false) (hst : r.status = 0) {r' : ChP} (hr : trailP r l = r') :
    Calls Tryz.prog 68 #[ptr g, .string s] w fun z w' => z = .returned (.tuple #[]) ∧ Hid (TookXc g vl vb vt w r' w') := by
  have hsz : s.size = l.length := by rw [hs, ofL_size]
  have hs2 : s.size ≤ 1000 := by omega
  by_cases hl0 : l = []
  · have hz0 : s.size = 0 := by rw [hsz, hl0]; rfl
    have hz2 := emp_yes hz0
    have hz3 : s.toList.isEmpty = true := by rw [hz2]; rfl
    have HE := Lib.hid (show r' = { r with whole := true } by rw [← hr, hl0, trailP_end])
    have C := Lib.hid c
    have d2 : w.cell? ⟨g, 2, none⟩ = some (.bool false) := (CkX.facts c).2.2.1
    have f2 := c.row.free 2
    have HF := Lib.hid hst
    clear c hr hw hst h3 hl o hsz hs hlen hl0 hz0
    unfold ptr
    go_enter Tryz.func68, Tryz.ntmps68
    go_wp2
    refine bodyPost_ret (results_none rfl _ _ _) rfl ?_
    refine ⟨rfl, Lib.hid ?_⟩
    rw [HE.out]
    exact ⟨vl, vb, vt, [], 3, left, r.ends, (show CkX g vl vb vt _ [] 3 left r.ends r.body r.trail true r.status from by rw [HF.out]; exact C.out.set (cs' := rfCells 3 left r.ends true 0) 2 (.bool true) rfl), fun h => absurd (done_no h).1 (by show ¬ true = false; decide), C.out.set_grew 2 _⟩
  · obtain ⟨hz2, hz3⟩ := emp_no (s := s) (by rw [hsz]; exact List.length_pos_iff.2 hl0)
    have HZ := Lib.hid (fparse_r s w (by omega))
    unfold FPAns at HZ
    have hps := fun h => parR_size (s := s) h
    obtain ⟨⟨⟨x, y⟩, er⟩, hp⟩ : ∃ p, p = parR s := ⟨_, rfl⟩
    have HPE := Lib.hid (show parR (ofL l) = ((x, y), er) by rw [← hs, ← hp])
    rw [← hp] at HZ hps
    simp only at HZ hps
    have C := Lib.hid c
    have HR := Lib.hid hr
    have HF := Lib.hid (And.intro hw (And.intro hst (And.intro h3 hl)))
    have HSZ := Lib.hid hsz
    have H0 := Lib.hid hl0
    have he512 := o.ends
    have ht8 := o.len
    clear c hr hp hw hst h3 hl o hsz hs hlen hl0
    unfold ptr
    go_enter Tryz.func68, Tryz.ntmps68
    go_upto_region 3 with (go_at_call 58; refine HZ.out.mono ?_; rintro e w1 ⟨rfl, hm⟩; have M1 := Lib.hid (hm.alloc (.cells #[.string x, .string y] 81)); have RX := Lib.hid (Row.new w1 81 #[.string x, .string y]); clear hm)
    obtain ⟨Wa, hWa⟩ : ∃ Wa, Wa = w1.alloc (.cells #[.string x, .string y] 81) := ⟨_, rfl⟩
    obtain ⟨xb, hxb⟩ : ∃ xb, xb = w1.heap.size := ⟨_, rfl⟩
    rw [← hWa] at M1
    rw [← hWa, ← hxb] at RX ⊢
    clear hWa hxb w1
    have k1 := C.out.low M1.out
    have d7 : Wa.cell? ⟨g, 7, none⟩ = some (.int .i64 (r.ends : Int)) := (CkX.facts k1).2.2.2.2.2.2.2
    have f7 := k1.row.free 7
    obtain ⟨e2, he2⟩ : ∃ e2, e2 = r.ends + (s.size + 2) := ⟨_, rfl⟩
    have hz : (r.ends : Int) + (s.size : Int) + 2 = (e2 : Int) := by omega
    have kb := k1.set (cs' := rfCells 3 left e2 false 0) 7 (.int .i64 (e2 : Int)) rfl
    have GB1 := Lib.hid ((Grew.of_low M1.out).trans (k1.set_grew 7 (.int .i64 (e2 : Int))))
    have hne : xb ≠ g := Row.type_ne RX.out k1.row (by decide)
    have rx := RX.out.far (p := ⟨g, 7, none⟩) hne (.int .i64 (e2 : Int))
    have HE2 := Lib.hid (show e2 = r.ends + (l.length + 2) by rw [he2, HSZ.out])
    have he3 : e2 ≤ 2000 := by omega
    have HZ2 := Lib.hid hz
    clear k1 he2 hz
    go_upto_region 5 with fail
    rw [HZ2.out]
    obtain ⟨Wb, hWb⟩ : ∃ Wb, Wb = Wa.setCell ⟨g, 7, none⟩ (.int .i64 (e2 : Int)) := ⟨_, rfl⟩
    rw [← hWb] at kb GB1 rx ⊢
    clear hWb d7 f7 hne
    have b7 : Wb.cell? ⟨g, 7, none⟩ = some (.int .i64 (e2 : Int)) := (CkX.facts kb).2.2.2.2.2.2.2
    have b1 : Wb.cell? ⟨g, 1, none⟩ = some vt := (CkX.facts kb).2.1
    have b3 : Wb.cell? ⟨g, 3, none⟩ = some (.int .i64 0) := (CkX.facts kb).2.2.2.1
    have f3 := kb.row.free 3
    obtain ⟨at_, ct, hvt⟩ : ∃ a c, vt = .slice a r.trail.length c := (FsAt.of_row kb.trail).len
    by_cases her : er = 0
    · subst her
      have HPS := Lib.hid (hps rfl)
      clear hps
      by_cases hmuch : r.trail.length = 8 ∨ 512 < e2
      · have HE := Lib.hid (show r' = { r with status := 431 } by rw [← HR.out]; exact trailP_much H0.out (by rw [HPE.out]) (by rw [← HE2.out]; exact hmuch))
        have HT := Lib.hid (tookX_bad kb HF.out.1 GB1.out 431 (by decide))
        clear kb rx
        subst hvt
        obtain ⟨tn, htn⟩ : ∃ tn, tn = r.trail.length := ⟨_, rfl⟩
        rw [← htn] at hmuch b1 ht8
        clear htn
        by_cases h5 : tn = 8
        · subst h5
          clear hmuch
          go_wp2
          go_end0
          exact ⟨rfl, Lib.hid (by rw [HE.out]; exact HT.out)⟩
        · have h6 : (512 : Int) < (e2 : Int) := by omega
          have h7 : ((tn : Int) == 8) = false := by rw [beq_eq_false_iff_ne]; omega
          clear hmuch h5
          go_wp2
          go_end0
          exact ⟨rfl, Lib.hid (by rw [HE.out]; exact HT.out)⟩
      · have HE := Lib.hid (show r' = { r with ends := e2, trail := r.trail ++ [(x, y)] } by rw [← HR.out, trailP_more H0.out (by rw [HPE.out]) (by rw [← HE2.out]; exact hmuch), HPE.out, ← HE2.out])
        have h6 : ¬ (512 : Int) < (e2 : Int) := by omega
        have h8 : ((r.trail.length : Int) == 8) = false := by rw [beq_eq_false_iff_ne]; omega
        have k5 := kb.low ((Mods.refl [] Wb).drew)
        obtain ⟨b5', c5, w4, hrun, hown, hm4, hb4⟩ := app_fld k5.trail (by omega) (x, y)
        have x0 : Wb.cell? ⟨xb, 0, none⟩ = some (.string x) := rx.cell 0
        have x1 : Wb.cell? ⟨xb, 1, none⟩ = some (.string y) := rx.cell 1
        have e3 := cell_alloc b1 (.cells #[.string x, .string y] 81)
        have hng : g ∉ vt.ownBlock.toList := fun hk => k5.ne_t (by decide) g hk rfl
        have r4 := k5.row.mods hm4 hng
        have e4 : w4.cell? ⟨g, 1, none⟩ = some vt := r4.cell 1
        have f4 := r4.free 1
        have HPUT := Lib.hid (k5.putT (cs' := rfCells 3 left e2 false 0) hown hm4 (fun k hk => by
          have hkb : k = b5' := by simpa [Value.ownBlock, eq_comm] using hk
          subst hkb
          rcases hb4 with h | h
          · exact .inl (by rw [← h]; simp)
          · exact .inr h) 1 rfl)
        simp only [World.size_drew] at hrun
        change Sem.run _ _ (World.drew (World.alloc Wb _)) = _ at hrun
        subst hvt
        clear kb k5 hown hm4 hb4 r4 hng rx hmuch b3 f3
        go_upto_region 4 with fail
        go_region_law (refine step_appF rfl rfl rfl rfl hrun ?_)
        all_goals
          clear hrun e3 e4 f4
          go_wp2
          go_end0
          refine ⟨rfl, Lib.hid ?_⟩
          rw [HE.out]
          have hg0 : Grew (rdb g vl vb (.slice at_ r.trail.length ct)) (rdb g vl vb (.slice at_ r.trail.length ct)) w Wb.drew := GB1.out.low ((Mods.refl [] Wb).drew)
          exact ⟨vl, vb, _, [], 3, left, e2, (show CkX g vl vb _ _ [] 3 left e2 r.body (r.trail ++ [(x, y)]) r.whole r.status from by rw [HF.out.1, HF.out.2.1]; exact HPUT.out.1), fun _ => ⟨HF.out.2.2.2.symm, HF.out.2.2.1.symm, (fun h => by have := HF.out.2.2.1; rw [show r.state = 1 from h] at this; cases this), rfl⟩, hg0.trans HPUT.out.2⟩
    · have hne2 : (er != 0) = true := by simpa using her
      have HE := Lib.hid (show r' = { r with status := 400 } by rw [← HR.out]; exact trailP_bad H0.out (by rw [HPE.out]; exact her))
      have HT := Lib.hid (tookX_bad kb HF.out.1 GB1.out 400 (by decide))
      clear hps her kb rx
      go_wp2
      go_end0
      exact ⟨rfl, Lib.hid (by rw [HE.out]; exact HT.out)⟩
end Go.Proofs.YtgkhelbpccehcaaGreatDoor

/- A byte, bytes, of the document's reader. Conditions: rows of at most a million bytes. -/
namespace Go.Proofs.YtgkhelbpccehcaaGreatDoor
open Go.RowKit
set_option linter.unusedVariables false
set_option linter.unusedSimpArgs false

/-- A byte more on a row of the object's. -/
theorem app_new {b : Nat} {v : Value} {w : World} {k : Nat} {n c : Nat} (hb : some b = v.ownBlock ∨ w.heap.size ≤ b) (hk : k ∈ (Value.slice (some ⟨b, 0, none⟩) n c).ownBlock.toList) : k ∈ v.ownBlock.toList ∨ w.heap.size ≤ k := by
  have hkb : k = b := by simpa [Value.ownBlock, eq_comm] using hk
  subst hkb
  rcases hb with h | h
  · exact .inl (by rw [← h]; simp)
  · exact .inr h
set_option maxRecDepth 100000 in
set_option maxHeartbeats 4000000 in
/-- Data. -/
theorem one_x1 {g : Nat} {vl vb vt : Value} {w : World} {r : ChP} (c : CkX g vl vb vt w r.line 1 r.left r.ends r.body r.trail false 0) (o : ChOk r) (h1 : r.state = 1) (hw : r.whole = false) (hst : r.status = 0) (x : UInt8) :
    Calls Tryz.prog 55 #[ptr g, .int .u8 (x.toNat : Int)] w fun z w' => z = .returned (.tuple #[]) ∧ Hid (TookXc g vl vb vt w (dataP r x) w') := by
  have hrm := o.room h1
  have hd := o.data h1
  obtain ⟨n, hn⟩ : ∃ n, r.left = n + 1 := ⟨r.left - 1, by omega⟩
  rw [hn] at c
  obtain ⟨A, cp, rfl, -, -⟩ := c.body.form
  have d4 : w.cell? ⟨g, 4, none⟩ = some (.int .i64 1) := (CkX.facts c).2.2.2.2.1
  have d0 : w.cell? ⟨g, 0, none⟩ = some (.slice A r.body.length cp) := (CkX.facts c).1
  obtain ⟨b, c', w4, hrun, hrow, hm, hb⟩ := app_row c.body (by omega) x
  have hng : g ∉ (Value.slice A r.body.length cp).ownBlock.toList := fun hk => c.ne_b (by decide) g hk rfl
  have r4 := c.row.mods hm hng
  have e0 : w4.cell? ⟨g, 0, none⟩ = some (.slice A r.body.length cp) := r4.cell 0
  have f0 := r4.free 0
  have p1 := c.putB (cs' := rfCells 1 (n + 1) r.ends false 0) hrow hm (fun k hk => app_new hb hk) 0 rfl
  obtain ⟨W1, hW1⟩ : ∃ W1, W1 = w4.setCell ⟨g, 0, none⟩ (.slice (some ⟨b, 0, none⟩) (r.body.length + 1) c') := ⟨_, rfl⟩
  rw [← hW1] at p1
  have k1 := p1.1
  have a6 : W1.cell? ⟨g, 6, none⟩ = some (.int .i64 ((n : Int) + 1)) := by have := (CkX.facts k1).2.2.2.2.2.2.1; rw [this]; push_cast; rfl
  have b6 := k1.row.free 6
  have k2 := k1.set (cs' := rfCells 1 n r.ends false 0) 6 (.int .i64 (n : Int)) rfl
  have G2 := Lib.hid (p1.2.trans (k1.set_grew 6 (.int .i64 (n : Int))))
  obtain ⟨W2, hW2⟩ : ∃ W2, W2 = W1.setCell ⟨g, 6, none⟩ (.int .i64 (n : Int)) := ⟨_, rfl⟩
  rw [← hW2] at k2 G2
  have a7 : W2.cell? ⟨g, 6, none⟩ = some (.int .i64 (n : Int)) := (CkX.facts k2).2.2.2.2.2.2.1
  have a4 : W2.cell? ⟨g, 4, none⟩ = some (.int .i64 (1 : Nat)) := (CkX.facts k2).2.2.2.2.1
  have b4 := k2.row.free 4
  have K2 := Lib.hid k2
  have HF := Lib.hid (And.intro hw (And.intro hst (And.intro hd hn)))
  have H1 := Lib.hid h1
  have hnl : n ≤ 5000 := by omega
  clear c o h1 hw hst hrm hd hn hrow hm hb hng r4 p1 k1 k2
  unfold ptr
  go_enter Tryz.func55, Tryz.ntmps55
  go_upto_region 3 with (at_builtin; refine wpList_run_app2 rfl (.tmp 18) (.tmp 20) 22 22 rfl rfl rfl hrun ?_)
  rw [← hW1]
  clear hW1 hrun e0 f0 d0 d4
  go_upto_region 4 with fail
  rw [← hW2]
  clear hW2 a6 b6
  by_cases h0 : n = 0
  · subst h0
    have k3 := K2.out.set (cs' := rfCells 2 0 r.ends false 0) 4 (.int .i64 2) rfl
    have G3 := Lib.hid (G2.out.trans (K2.out.set_grew 4 (.int .i64 2)))
    obtain ⟨W3, hW3⟩ : ∃ W3, W3 = W2.setCell ⟨g, 4, none⟩ (.int .i64 2) := ⟨_, rfl⟩
    rw [← hW3] at k3 G3
    have a5 : W3.cell? ⟨g, 5, none⟩ = some vl := (CkX.facts k3).2.2.2.2.2.1
    have b5 := k3.row.free 5
    have K3 := Lib.hid k3
    clear k3
    go_upto_region 6 with fail
    rw [← hW3]
    clear hW3 a4 b4 a7
    go_wp2
    refine bodyPost_ret (results_none rfl _ _ _) rfl ?_
    refine ⟨rfl, Lib.hid ?_⟩
    have p4 := K3.out.putL (cs' := rfCells 2 0 r.ends false 0) (BRow.nil W3) (Mods.refl _ W3) (fun k hk => by simp [Value.ownBlock] at hk) 5 rfl
    exact ⟨_, _, vt, [], 2, 0, r.ends, (show CkX g _ _ vt _ [] 2 0 r.ends (r.body ++ [x]) r.trail r.whole r.status from by rw [HF.out.1, HF.out.2.1]; exact p4.1), fun _ => ⟨by show [] = (if r.left = 1 then [] else r.line); rw [if_pos HF.out.2.2.2], by show 2 = (if r.left = 1 then 2 else 1); rw [if_pos HF.out.2.2.2], fun _ => by show 0 = r.left - 1; rw [HF.out.2.2.2], rfl⟩, G3.out.trans p4.2⟩
  · have hz : ((n : Int) == 0) = false := by rw [beq_eq_false_iff_ne]; omega
    have HN := Lib.hid h0
    clear h0
    go_wp2
    refine bodyPost_ret (results_none rfl _ _ _) rfl ?_
    refine ⟨rfl, Lib.hid ?_⟩
    have hne1 : ¬ r.left = 1 := by have h1 := HF.out.2.2.2; have h2 := HN.out; omega
    exact ⟨vl, _, vt, r.line, 1, n, r.ends, (show CkX g vl _ vt _ r.line 1 n r.ends (r.body ++ [x]) r.trail r.whole r.status from by rw [HF.out.1, HF.out.2.1]; exact K2.out), fun _ => ⟨by show r.line = (if r.left = 1 then [] else r.line); rw [if_neg hne1], by show 1 = (if r.left = 1 then 2 else 1); rw [if_neg hne1], fun _ => by show n = r.left - 1; have h1 := HF.out.2.2.2; omega, rfl⟩, G2.out⟩
set_option maxRecDepth 100000 in
set_option maxHeartbeats 4000000 in
/-- What stands behind data. -/
theorem one_x2 {g : Nat} {vl vb vt : Value} {w : World} {r : ChP} {left : Nat} (c : CkX g vl vb vt w r.line 2 left r.ends r.body r.trail false 0) (o : ChOk r) (h2 : r.state = 2) (hw : r.whole = false) (hst : r.status = 0) (x : UInt8) :
    Calls Tryz.prog 55 #[ptr g, .int .u8 (x.toNat : Int)] w fun z w' => z = .returned (.tuple #[]) ∧ Hid (TookXc g vl vb vt w (crlfP r x) w') := by
  obtain ⟨A, cp, rfl, -, -⟩ := c.line.form
  have hlen := o.line
  have m0 : Mods [] w (w.alloc (.cells #[.int .u8 13, .int .u8 10] 5)) := (Mods.refl [] w).alloc _
  have rw0 := Row.new w 5 #[.int .u8 13, .int .u8 10]
  have d4 : w.cell? ⟨g, 4, none⟩ = some (.int .i64 2) := (CkX.facts c).2.2.2.2.1
  have k1 := c.low m0
  have e5a : (w.alloc (.cells #[.int .u8 13, .int .u8 10] 5)).cell? ⟨g, 5, none⟩ = some (.slice A r.line.length cp) := (CkX.facts k1).2.2.2.2.2.1
  have i0a : (w.alloc (.cells #[.int .u8 13, .int .u8 10] 5)).cell? ⟨w.heap.size, 0, none⟩ = some (.int .u8 13) := rw0.cell 0
  have i1a : (w.alloc (.cells #[.int .u8 13, .int .u8 10] 5)).cell? ⟨w.heap.size, 1, none⟩ = some (.int .u8 10) := rw0.cell 1
  obtain ⟨W, hW⟩ : ∃ W, W = w.alloc (.cells #[.int .u8 13, .int .u8 10] 5) := ⟨_, rfl⟩
  rw [← hW] at k1 rw0 m0
  have e5 : W.cell? ⟨g, 5, none⟩ = some (.slice A r.line.length cp) := (CkX.facts k1).2.2.2.2.2.1
  have e3 : W.cell? ⟨g, 3, none⟩ = some (.int .i64 0) := (CkX.facts k1).2.2.2.1
  have f3 := k1.row.free 3
  have M0 := Lib.hid (Grew.of_low (F := rdb g (.slice A r.line.length cp) vb vt) m0)
  have HBAD := Lib.hid (tookX_bad k1 hw M0.out 400 (by decide))
  obtain ⟨b, c', w4, hrun, hrow, hm, hb⟩ := app_row k1.line (by omega) x
  have hng : g ∉ (Value.slice A r.line.length cp).ownBlock.toList := fun hk => k1.ne_l (by decide) g hk rfl
  have r4 := k1.row.mods hm hng
  have e0 : w4.cell? ⟨g, 5, none⟩ = some (.slice A r.line.length cp) := r4.cell 5
  have f0 := r4.free 5
  have p1 := k1.putL (cs' := rfCells 2 left r.ends false 0) hrow hm (fun k hk => app_new hb hk) 5 rfl
  obtain ⟨W1, hW1⟩ : ∃ W1, W1 = w4.setCell ⟨g, 5, none⟩ (.slice (some ⟨b, 0, none⟩) (r.line.length + 1) c') := ⟨_, rfl⟩
  rw [← hW1] at p1
  have a5 : W1.cell? ⟨g, 5, none⟩ = some (.slice (some ⟨b, 0, none⟩) (r.line.length + 1) c') := (CkX.facts p1.1).2.2.2.2.2.1
  have a4 : W1.cell? ⟨g, 4, none⟩ = some (.int .i64 (2 : Nat)) := (CkX.facts p1.1).2.2.2.2.1
  have b4 := p1.1.row.free 4
  have K1 := Lib.hid p1.1
  have G1 := Lib.hid (M0.out.trans p1.2)
  have HF := Lib.hid (And.intro hw (And.intro hst h2))
  have HW := Lib.hid hW
  have hl := o.crlf h2
  clear c o h2 hw hst hlen m0 rw0 k1 hrow hm hb hng r4 p1 hW
  unfold ptr
  rcases hl with hl | hl
  · have HL := Lib.hid hl
    have hlz : r.line.length = 0 := by rw [hl]; rfl
    rw [hlz] at e5 e5a e0 a5 hW1 hrun
    clear hl hlz
    rcases is14 x 13 13 rfl (by decide) with ⟨ex, -, hx⟩ | ⟨ex, -, hx⟩
    · have HE := Lib.hid (show crlfP r x = { r with line := [13] } by unfold crlfP; rw [if_pos HL.out, if_pos (show x = 13 from ex)])
      have HX := Lib.hid ex
      clear ex
      go_enter Tryz.func55, Tryz.ntmps55
      go_upto_region 9 with fail
      rw [← HW.out]
      clear e5a i0a i1a
      go_upto_region 12 with (at_builtin; refine wpList_run_app2 rfl (.tmp 62) (.tmp 64) 22 22 rfl rfl rfl hrun ?_)
      rw [← hW1]
      clear hW1 hrun e0 f0 e5 e3 f3 d4
      go_wp2
      refine bodyPost_ret (results_none rfl _ _ _) rfl ?_
      refine ⟨rfl, Lib.hid ?_⟩
      rw [HE.out]
      have k := K1.out
      rw [show r.line ++ [x] = [13] by rw [HL.out, HX.out]; rfl] at k
      exact ⟨_, vb, vt, [13], 2, left, r.ends, (show CkX g _ vb vt _ [13] 2 left r.ends r.body r.trail r.whole r.status from by rw [HF.out.1, HF.out.2.1]; exact k), fun _ => ⟨rfl, HF.out.2.2.symm, (fun h => by have := HF.out.2.2; rw [show r.state = 1 from h] at this; cases this), rfl⟩, G1.out⟩
    · have HE := Lib.hid (show crlfP r x = { r with status := 400 } by unfold crlfP; rw [if_pos HL.out, if_neg (show ¬ x = 13 from ex)])
      clear ex hrun
      go_enter Tryz.func55, Tryz.ntmps55
      go_upto_region 9 with fail
      rw [← HW.out]
      clear e5a i0a i1a
      go_wp2
      refine bodyPost_ret (results_none rfl _ _ _) rfl ?_
      exact ⟨rfl, Lib.hid (by rw [HE.out]; exact HBAD.out)⟩
  · have HL := Lib.hid hl
    have hlz : r.line.length = 1 := by rw [hl]; rfl
    rw [hlz] at e5 e5a e0 a5 hW1 hrun
    clear hl hlz
    rcases is14 x 10 10 rfl (by decide) with ⟨ex, -, hx⟩ | ⟨ex, -, hx⟩
    · have HE := Lib.hid (show crlfP r x = { r with line := [], state := 0 } by unfold crlfP; rw [if_neg (show ¬ r.line = [] by rw [HL.out]; simp), if_pos (show x = 10 from ex)])
      clear ex
      have k2 := K1.out.set (cs' := rfCells 0 left r.ends false 0) 4 (.int .i64 0) rfl
      have G2 := Lib.hid (G1.out.trans (K1.out.set_grew 4 (.int .i64 0)))
      obtain ⟨W2, hW2⟩ : ∃ W2, W2 = W1.setCell ⟨g, 4, none⟩ (.int .i64 0) := ⟨_, rfl⟩
      rw [← hW2] at k2 G2
      have q5 : W2.cell? ⟨g, 5, none⟩ = some (.slice (some ⟨b, 0, none⟩) (r.line.length + 1) c') := (CkX.facts k2).2.2.2.2.2.1
      have s5 := k2.row.free 5
      have K2 := Lib.hid k2
      clear k2
      go_enter Tryz.func55, Tryz.ntmps55
      go_upto_region 9 with fail
      rw [← HW.out]
      clear e5a i0a i1a
      go_upto_region 12 with (at_builtin; refine wpList_run_app2 rfl (.tmp 62) (.tmp 64) 22 22 rfl rfl rfl hrun ?_)
      rw [← hW1]
      clear hW1 hrun e0 f0 e5 e3 f3 d4
      go_upto_region 14 with fail
      rw [← hW2]
      clear hW2 a5 a4 b4
      go_wp2
      refine bodyPost_ret (results_none rfl _ _ _) rfl ?_
      refine ⟨rfl, Lib.hid ?_⟩
      rw [HE.out]
      have p4 := K2.out.putL (cs' := rfCells 0 left r.ends false 0) (BRow.nil W2) (Mods.refl _ W2) (fun k hk => by simp [Value.ownBlock] at hk) 5 rfl
      exact ⟨_, vb, vt, [], 0, left, r.ends, (show CkX g _ vb vt _ [] 0 left r.ends r.body r.trail r.whole r.status from by rw [HF.out.1, HF.out.2.1]; exact p4.1), fun _ => ⟨rfl, rfl, (fun h => by cases h), rfl⟩, G2.out.trans p4.2⟩
    · have HE := Lib.hid (show crlfP r x = { r with status := 400 } by unfold crlfP; rw [if_neg (show ¬ r.line = [] by rw [HL.out]; simp), if_neg (show ¬ x = 10 from ex)])
      clear ex hrun
      go_enter Tryz.func55, Tryz.ntmps55
      go_upto_region 9 with fail
      rw [← HW.out]
      clear e5a i0a i1a
      go_wp2
      refine bodyPost_ret (results_none rfl _ _ _) rfl ?_
      exact ⟨rfl, Lib.hid (by rw [HE.out]; exact HBAD.out)⟩
set_option maxRecDepth 100000 in
set_option maxHeartbeats 4000000 in
/-- A line's end. -/
theorem one_x3 {g : Nat} {vl vb vt : Value} {w : World} {r : ChP} {left : Nat} (c : CkX g vl vb vt w r.line r.state left r.ends r.body r.trail false 0) (o : ChOk r) (hs : r.state = 0 ∨ r.state = 3) (hw : r.whole = false) (hst : r.status = 0) {r' : ChP} (hr : endP r = r') :
    Calls Tryz.prog 55 #[ptr g, .int .u8 10] w fun z w' => z = .returned (.tuple #[]) ∧ Hid (TookXc g vl vb vt w r' w') := by
  have hlen := o.line
  have C := Lib.hid c
  have hat := c.line.at
  have d4 : w.cell? ⟨g, 4, none⟩ = some (.int .i64 (r.state : Int)) := (CkX.facts c).2.2.2.2.1
  have d5 : w.cell? ⟨g, 5, none⟩ = some vl := (CkX.facts c).2.2.2.2.2.1
  have d3 : w.cell? ⟨g, 3, none⟩ = some (.int .i64 0) := (CkX.facts c).2.2.2.1
  have f3 := c.row.free 3
  have f5 := c.row.free 5
  have HBAD := Lib.hid (tookX_bad c hw (Grew.refl _ _) 400 (by decide))
  have n1 : ((r.state : Int) == 1) = false := by rw [beq_eq_false_iff_ne]; omega
  have n2 : ((r.state : Int) == 2) = false := by rw [beq_eq_false_iff_ne]; omega
  have HF := Lib.hid (And.intro hw hst)
  have HR := Lib.hid hr
  have OF := Lib.hid o.fresh
  unfold ptr
  cases hcr : crE r.line with
  | false =>
    have HE := Lib.hid (show r' = { r with status := 400 } by rw [← HR.out]; exact endP_bad hcr)
    rcases hat with ⟨hl0, A, cp, rfl⟩ | ⟨b, off, cp, rfl, hpos, hb, hc1, hc2, hcell⟩
    · clear c o hs hw hst hr hcr
      generalize (r.state : Int) = sz at *
      go_enter Tryz.func55, Tryz.ntmps55
      go_wp2
      refine bodyPost_ret (results_none rfl _ _ _) rfl ?_
      exact ⟨rfl, Lib.hid (by rw [HE.out]; exact HBAD.out)⟩
    · obtain ⟨n, hn⟩ : ∃ n, r.line.length = n + 1 := ⟨r.line.length - 1, by omega⟩
      have hnl : n < r.line.length := by omega
      have hlast : r.line[n] ≠ 13 := by
        intro e
        unfold crE at hcr
        refine of_decide_eq_false hcr ?_
        rw [List.getLast?_eq_getElem?, hn, Nat.add_sub_cancel, List.getElem?_eq_getElem hnl, e]
      have hce := hcell n hnl
      obtain ⟨y, hy⟩ : ∃ y, y = r.line[n] := ⟨_, rfl⟩
      rw [← hy] at hce hlast
      rcases is14 y 13 13 rfl (by decide) with ⟨ex, -, -⟩ | ⟨-, -, hx⟩
      · exact absurd ex hlast
      have hz : (((n : Int) + 1) == 0) = false := by rw [beq_eq_false_iff_ne]; omega
      have hn2 : n ≤ 300 := by omega
      rw [hn] at d5 hc1
      clear c o hs hw hst hr hcr hcell hn hnl hlast hy hpos hlen
      generalize (r.state : Int) = sz at *
      go_enter Tryz.func55, Tryz.ntmps55
      go_wp2
      refine bodyPost_ret (results_none rfl _ _ _) rfl ?_
      exact ⟨rfl, Lib.hid (by rw [HE.out]; exact HBAD.out)⟩
  | true =>
    obtain ⟨Mm, hM, hcm⟩ := cr_split hcr
    rcases hat with ⟨hl0, A, cp, rfl⟩ | ⟨b, off, cp, rfl, hpos, hb, hc1, hc2, hcell⟩
    · rw [hM] at hl0; simp at hl0
    have hn : r.line.length = Mm.length + 1 := by rw [hM]; simp
    have hnl : Mm.length < r.line.length := by omega
    have hlast : r.line[Mm.length] = 13 := by simp [hM]
    have hce := hcell Mm.length hnl
    rw [hlast] at hce
    have hbm : BsAt w (.slice (some ⟨b, off, none⟩) Mm.length cp) Mm := by
      have := c.line.at.to Mm.length (by omega)
      rw [hM] at this
      simpa using this
    have hconv := hbm.text
    have p1 := c.putL (cs' := rfCells r.state left r.ends false 0) (BRow.nil w) (Mods.refl _ w) (fun k hk => by simp [Value.ownBlock] at hk) 5 rfl
    obtain ⟨Wb, hWb⟩ : ∃ Wb, Wb = w.setCell ⟨g, 5, none⟩ (.slice none 0 0) := ⟨_, rfl⟩
    rw [← hWb] at p1
    have G1 := Lib.hid p1.2
    have a4 : Wb.cell? ⟨g, 4, none⟩ = some (.int .i64 (r.state : Int)) := (CkX.facts p1.1).2.2.2.2.1
    have hn2 : Mm.length ≤ 256 := by omega
    have hz : (((Mm.length : Int) + 1) == 0) = false := by rw [beq_eq_false_iff_ne]; omega
    rw [hn] at d5 hc1
    rcases hs with h0 | h3
    · have k1 := p1.1
      rw [h0] at k1 d4 a4 n1 n2
      have HE := Lib.hid (show sizeP { r with line := [] } Mm = r' by rw [← endP_size hM h0]; exact HR.out)
      have HS := Lib.hid (size_x (r := { r with line := [] }) (ofL Mm) (by rw [ofL_size]; omega) k1 OF.out h0 rfl HF.out.1 HF.out.2 (r' := r') (by rw [ofL_list]; exact HE.out))
      unfold ptr at HS
      obtain ⟨s, hsm⟩ : ∃ s, s = ofL Mm := ⟨_, rfl⟩
      rw [← hsm] at HS hconv
      clear c o hw hst hr hcr hcell hM hcm hpos hb hn hnl hlast hbm p1 hsm h0 k1 hlen n1 n2
      generalize Mm.length = ml at *
      go_enter Tryz.func55, Tryz.ntmps55
      go_upto_region 21 with fail
      rw [← hWb]
      clear hWb d5 f5 hce d4 d3 f3
      go_wp2_with (go_at_call 67; refine HS.out.mono ?_; rintro z w2 ⟨rfl, hk⟩; have HK := Lib.hid hk.out; clear hk)
      refine bodyPost_ret (results_none rfl _ _ _) rfl ?_
      exact ⟨rfl, Lib.hid (TookXc.since HK.out G1.out)⟩
    · have k1 := p1.1
      rw [h3] at k1 d4 a4 n1 n2
      have HE := Lib.hid (show trailP { r with line := [] } Mm = r' by rw [← endP_trail hM h3]; exact HR.out)
      have HS := Lib.hid (trailer_x (r := { r with line := [] }) Mm (by omega) (ofL Mm) rfl k1 OF.out h3 rfl HF.out.1 HF.out.2 (r' := r') HE.out)
      unfold ptr at HS
      obtain ⟨s, hsm⟩ : ∃ s, s = ofL Mm := ⟨_, rfl⟩
      rw [← hsm] at HS hconv
      clear c o hw hst hr hcr hcell hM hcm hpos hb hn hnl hlast hbm p1 hsm h3 k1 hlen n1 n2
      generalize Mm.length = ml at *
      go_enter Tryz.func55, Tryz.ntmps55
      go_upto_region 21 with fail
      rw [← hWb]
      clear hWb d5 f5 hce d4 d3 f3
      go_wp2_with (go_at_call 68; refine HS.out.mono ?_; rintro z w2 ⟨rfl, hk⟩; have HK := Lib.hid hk.out; clear hk)
      refine bodyPost_ret (results_none rfl _ _ _) rfl ?_
      exact ⟨rfl, Lib.hid (TookXc.since HK.out G1.out)⟩
theorem grow_0 {r : ChP} {x : UInt8} (h0 : r.state = 0) : growP r x = if 64 < cntL r.line x then { r with status := 400 } else { r with line := r.line ++ [x] } := by
  unfold growP
  by_cases h : 64 < cntL r.line x
  · rw [if_pos ⟨h0, h⟩, if_pos h]
  · rw [if_neg (fun q => h q.2), if_neg (fun q => q.1 h0), if_neg h]
theorem grow_3 {r : ChP} {x : UInt8} (h3 : r.state = 3) : growP r x = if 256 < cntL r.line x ∨ 512 < r.ends + cntL r.line x then { r with status := 431 } else { r with line := r.line ++ [x] } := by
  unfold growP
  have h0 : r.state ≠ 0 := by omega
  rw [if_neg (fun q => h0 q.1)]
  by_cases h : 256 < cntL r.line x ∨ 512 < r.ends + cntL r.line x
  · rw [if_pos ⟨h0, h⟩, if_pos h]
  · rw [if_neg (fun q => h q.2), if_neg h]
set_option maxRecDepth 100000 in
set_option maxHeartbeats 8000000 in
/-- A byte of a line. -/
theorem one_x4 {g : Nat} {vl vb vt : Value} {w : World} {r : ChP} {left : Nat} (c : CkX g vl vb vt w r.line r.state left r.ends r.body r.trail false 0) (hleft : r.state = 1 → left = r.left) (o : ChOk r) (hs : r.state = 0 ∨ r.state = 3) (hw : r.whole = false) (hst : r.status = 0) (x : UInt8) (hx : x ≠ 10) {r' : ChP} (hr : growP r x = r') :
    Calls Tryz.prog 55 #[ptr g, .int .u8 (x.toNat : Int)] w fun z w' => z = .returned (.tuple #[]) ∧ Hid (TookXc g vl vb vt w r' w') := by
  have hlen := o.line
  have hend := o.ends
  obtain ⟨A, cp, rfl, -, -⟩ := c.line.form
  have d4 : w.cell? ⟨g, 4, none⟩ = some (.int .i64 (r.state : Int)) := (CkX.facts c).2.2.2.2.1
  have d5 : w.cell? ⟨g, 5, none⟩ = some (.slice A r.line.length cp) := (CkX.facts c).2.2.2.2.2.1
  obtain ⟨b, c', w4, hrun, hrow, hm, hb⟩ := app_row c.line (by omega) x
  have hng : g ∉ (Value.slice A r.line.length cp).ownBlock.toList := fun hk => c.ne_l (by decide) g hk rfl
  have r4 := c.row.mods hm hng
  have e5 : w4.cell? ⟨g, 5, none⟩ = some (.slice A r.line.length cp) := r4.cell 5
  have f5 := r4.free 5
  have p1 := c.putL (cs' := rfCells r.state left r.ends false 0) hrow hm (fun k hk => app_new hb hk) 5 rfl
  obtain ⟨W1, hW1⟩ : ∃ W1, W1 = w4.setCell ⟨g, 5, none⟩ (.slice (some ⟨b, 0, none⟩) (r.line.length + 1) c') := ⟨_, rfl⟩
  rw [← hW1] at p1
  have a5 : W1.cell? ⟨g, 5, none⟩ = some (.slice (some ⟨b, 0, none⟩) (r.line.length + 1) c') := (CkX.facts p1.1).2.2.2.2.2.1
  have a4 : W1.cell? ⟨g, 4, none⟩ = some (.int .i64 (r.state : Int)) := (CkX.facts p1.1).2.2.2.2.1
  have a7 : W1.cell? ⟨g, 7, none⟩ = some (.int .i64 (r.ends : Int)) := (CkX.facts p1.1).2.2.2.2.2.2.2
  have a3 : W1.cell? ⟨g, 3, none⟩ = some (.int .i64 0) := (CkX.facts p1.1).2.2.2.1
  have b3 := p1.1.row.free 3
  have HB4 := Lib.hid (tookX_bad (r := r) p1.1 hw (Grew.refl _ _) 400 (by decide))
  have HB3 := Lib.hid (tookX_bad (r := r) p1.1 hw (Grew.refl _ _) 431 (by decide))
  have HOK := Lib.hid (show TookXc g (.slice A r.line.length cp) vb vt w { r with line := r.line ++ [x] } W1 from ⟨_, vb, vt, r.line ++ [x], r.state, left, r.ends, (show CkX g _ vb vt W1 (r.line ++ [x]) r.state left r.ends r.body r.trail r.whole r.status from by rw [hw, hst]; exact p1.1), fun _ => ⟨rfl, rfl, hleft, rfl⟩, p1.2⟩)
  have G1 := Lib.hid p1.2
  have HR := Lib.hid hr
  have hcnt : cntL r.line x = if x = 13 then r.line.length else r.line.length + 1 := rfl
  obtain ⟨k, hk⟩ : ∃ k, k = cntL r.line x := ⟨_, rfl⟩
  rw [← hk] at hcnt
  have n10 : ((x.toNat : Int) == 10) = false := by
    rcases is14 x 10 10 rfl (by decide) with ⟨ex, -, -⟩ | ⟨-, hx, -⟩
    · exact absurd ex hx
    · exact hx
  have hk2 : k ≤ 300 := by rw [hcnt]; split <;> omega
  have HG0 := Lib.hid (fun h => grow_0 (r := r) (x := x) h)
  have HG3 := Lib.hid (fun h => grow_3 (r := r) (x := x) h)
  rw [← hk] at HG0 HG3
  clear c hw hst hr hrow hm hb hng r4 p1 o hx hleft hk
  obtain ⟨n, hn⟩ : ∃ n, n = r.line.length := ⟨_, rfl⟩
  rw [← hn] at d5 hrun e5 hW1 a5 hlen hcnt
  clear hn
  unfold ptr
  have hcase : (x = 13 ∧ k = n) ∨ (x ≠ 13 ∧ k = n + 1) := by
    by_cases h : x = 13
    · rw [if_pos h] at hcnt; exact .inl ⟨h, hcnt⟩
    · rw [if_neg h] at hcnt; exact .inr ⟨h, hcnt⟩
  clear hcnt
  rcases hs with h0 | h3
  · have HRG := Lib.hid (show (if 64 < k then { r with status := 400 } else { r with line := r.line ++ [x] } : ChP) = r' by rw [← HG0.out h0]; exact HR.out)
    rw [h0] at d4 a4
    rcases hcase with ⟨h13, rfl⟩ | ⟨h13, rfl⟩
    · have x13 : ((x.toNat : Int) == 13) = true := by rw [h13]; rfl
      clear h13 h0
      by_cases hmuch : 64 < k
      · have HE := Lib.hid (show r' = { r with status := 400 } by rw [← HRG.out, if_pos hmuch])
        go_enter Tryz.func55, Tryz.ntmps55
        go_upto_region 25 with (at_builtin; refine wpList_run_app2 rfl (.tmp 129) (.tmp 131) 22 22 rfl rfl rfl hrun ?_)
        rw [← hW1]
        clear hW1 hrun e5 f5 d5 d4
        go_wp2
        go_end0
        exact ⟨rfl, Lib.hid (by rw [HE.out]; exact TookXc.since HB4.out G1.out)⟩
      · have HE := Lib.hid (show r' = { r with line := r.line ++ [x] } by rw [← HRG.out, if_neg hmuch])
        go_enter Tryz.func55, Tryz.ntmps55
        go_upto_region 25 with (at_builtin; refine wpList_run_app2 rfl (.tmp 129) (.tmp 131) 22 22 rfl rfl rfl hrun ?_)
        rw [← hW1]
        clear hW1 hrun e5 f5 d5 d4
        go_wp2
        go_end0
        exact ⟨rfl, Lib.hid (by rw [HE.out]; exact HOK.out)⟩
    · have x13 : ((x.toNat : Int) == 13) = false := by
        rcases is14 x 13 13 rfl (by decide) with ⟨ex, -, -⟩ | ⟨-, hx, -⟩
        · exact absurd ex h13
        · exact hx
      clear h13 h0
      by_cases hmuch : 64 < n + 1
      · have HE := Lib.hid (show r' = { r with status := 400 } by rw [← HRG.out, if_pos hmuch])
        have hm2 : (64 : Int) < (n : Int) + 1 := by omega
        clear hmuch
        go_enter Tryz.func55, Tryz.ntmps55
        go_upto_region 25 with (at_builtin; refine wpList_run_app2 rfl (.tmp 129) (.tmp 131) 22 22 rfl rfl rfl hrun ?_)
        rw [← hW1]
        clear hW1 hrun e5 f5 d5 d4
        go_wp2
        go_end0
        exact ⟨rfl, Lib.hid (by rw [HE.out]; exact TookXc.since HB4.out G1.out)⟩
      · have HE := Lib.hid (show r' = { r with line := r.line ++ [x] } by rw [← HRG.out, if_neg hmuch])
        have hm2 : ¬ (64 : Int) < (n : Int) + 1 := by omega
        clear hmuch
        go_enter Tryz.func55, Tryz.ntmps55
        go_upto_region 25 with (at_builtin; refine wpList_run_app2 rfl (.tmp 129) (.tmp 131) 22 22 rfl rfl rfl hrun ?_)
        rw [← hW1]
        clear hW1 hrun e5 f5 d5 d4
        go_wp2
        go_end0
        exact ⟨rfl, Lib.hid (by rw [HE.out]; exact HOK.out)⟩
  · obtain ⟨en, hen⟩ : ∃ en, en = r.ends := ⟨_, rfl⟩
    have HRG := Lib.hid (show (if 256 < k ∨ 512 < en + k then { r with status := 431 } else { r with line := r.line ++ [x] } : ChP) = r' by rw [hen, ← HG3.out h3]; exact HR.out)
    rw [← hen] at a7 hend
    clear hen
    rw [h3] at d4 a4
    clear h3
    rcases hcase with ⟨h13, rfl⟩ | ⟨h13, rfl⟩
    · have x13 : ((x.toNat : Int) == 13) = true := by rw [h13]; rfl
      clear h13
      by_cases hmuch : 256 < k ∨ 512 < en + k
      · have HE := Lib.hid (show r' = { r with status := 431 } by rw [← HRG.out, if_pos hmuch])
        by_cases hm1 : 256 < k
        · clear hmuch
          go_enter Tryz.func55, Tryz.ntmps55
          go_upto_region 25 with (at_builtin; refine wpList_run_app2 rfl (.tmp 129) (.tmp 131) 22 22 rfl rfl rfl hrun ?_)
          rw [← hW1]
          clear hW1 hrun e5 f5 d5 d4
          go_wp2
          go_end0
          exact ⟨rfl, Lib.hid (by rw [HE.out]; exact TookXc.since HB3.out G1.out)⟩
        · have hm2 : (512 : Int) < (en : Int) + (k : Int) := by omega
          clear hmuch
          go_enter Tryz.func55, Tryz.ntmps55
          go_upto_region 25 with (at_builtin; refine wpList_run_app2 rfl (.tmp 129) (.tmp 131) 22 22 rfl rfl rfl hrun ?_)
          rw [← hW1]
          clear hW1 hrun e5 f5 d5 d4
          go_wp2
          go_end0
          exact ⟨rfl, Lib.hid (by rw [HE.out]; exact TookXc.since HB3.out G1.out)⟩
      · have HE := Lib.hid (show r' = { r with line := r.line ++ [x] } by rw [← HRG.out, if_neg hmuch])
        have hm1 : ¬ 256 < k := fun h => hmuch (.inl h)
        have hm2 : ¬ (512 : Int) < (en : Int) + (k : Int) := by intro h; exact hmuch (.inr (by omega))
        clear hmuch
        go_enter Tryz.func55, Tryz.ntmps55
        go_upto_region 25 with (at_builtin; refine wpList_run_app2 rfl (.tmp 129) (.tmp 131) 22 22 rfl rfl rfl hrun ?_)
        rw [← hW1]
        clear hW1 hrun e5 f5 d5 d4
        go_wp2
        go_end0
        exact ⟨rfl, Lib.hid (by rw [HE.out]; exact HOK.out)⟩
    · have x13 : ((x.toNat : Int) == 13) = false := by
        rcases is14 x 13 13 rfl (by decide) with ⟨ex, -, -⟩ | ⟨-, hx, -⟩
        · exact absurd ex h13
        · exact hx
      clear h13
      by_cases hmuch : 256 < n + 1 ∨ 512 < en + (n + 1)
      · have HE := Lib.hid (show r' = { r with status := 431 } by rw [← HRG.out, if_pos hmuch])
        by_cases hm0 : 256 < n + 1
        · have hm1 : (256 : Int) < (n : Int) + 1 := by omega
          clear hmuch hm0
          go_enter Tryz.func55, Tryz.ntmps55
          go_upto_region 25 with (at_builtin; refine wpList_run_app2 rfl (.tmp 129) (.tmp 131) 22 22 rfl rfl rfl hrun ?_)
          rw [← hW1]
          clear hW1 hrun e5 f5 d5 d4
          go_wp2
          go_end0
          exact ⟨rfl, Lib.hid (by rw [HE.out]; exact TookXc.since HB3.out G1.out)⟩
        · have hm1 : ¬ (256 : Int) < (n : Int) + 1 := by omega
          have hm2 : (512 : Int) < (en : Int) + ((n : Int) + 1) := by omega
          clear hmuch hm0
          go_enter Tryz.func55, Tryz.ntmps55
          go_upto_region 25 with (at_builtin; refine wpList_run_app2 rfl (.tmp 129) (.tmp 131) 22 22 rfl rfl rfl hrun ?_)
          rw [← hW1]
          clear hW1 hrun e5 f5 d5 d4
          go_wp2
          go_end0
          exact ⟨rfl, Lib.hid (by rw [HE.out]; exact TookXc.since HB3.out G1.out)⟩
      · have HE := Lib.hid (show r' = { r with line := r.line ++ [x] } by rw [← HRG.out, if_neg hmuch])
        have hm1 : ¬ (256 : Int) < (n : Int) + 1 := by intro h; exact hmuch (.inl (by omega))
        have hm2 : ¬ (512 : Int) < (en : Int) + ((n : Int) + 1) := by intro h; exact hmuch (.inr (by omega))
        clear hmuch
        go_enter Tryz.func55, Tryz.ntmps55
        go_upto_region 25 with (at_builtin; refine wpList_run_app2 rfl (.tmp 129) (.tmp 131) 22 22 rfl rfl rfl hrun ?_)
        rw [← hW1]
        clear hW1 hrun e5 f5 d5 d4
        go_wp2
        go_end0
        exact ⟨rfl, Lib.hid (by rw [HE.out]; exact HOK.out)⟩
end Go.Proofs.YtgkhelbpccehcaaGreatDoor

/- A byte, bytes, of the document's reader as a whole. Conditions: rows of at most a million bytes. -/
namespace Go.Proofs.YtgkhelbpccehcaaGreatDoor
open Go.RowKit
set_option linter.unusedVariables false
set_option linter.unusedSimpArgs false

/-- A byte. -/
theorem one_x {g : Nat} {vl vb vt : Value} {w : World} {r : ChP} {left : Nat} (c : CkX g vl vb vt w r.line r.state left r.ends r.body r.trail false 0) (hleft : r.state = 1 → left = r.left) (o : ChOk r) (hw : r.whole = false) (hst : r.status = 0) (x : UInt8) {r' : ChP} (hr : oneP r x = r') :
    Calls Tryz.prog 55 #[ptr g, .int .u8 (x.toNat : Int)] w fun z w' => z = .returned (.tuple #[]) ∧ Hid (TookXc g vl vb vt w r' w') := by
  have hst3 := o.st
  rcases (by omega : r.state = 1 ∨ r.state = 2 ∨ (r.state = 0 ∨ r.state = 3)) with h1 | h2 | h03
  · rw [one_1 h1] at hr
    subst hr
    have hl := hleft h1
    subst hl
    rw [h1] at c
    exact one_x1 c o h1 hw hst x
  · rw [one_2 h2] at hr
    subst hr
    rw [h2] at c
    exact one_x2 c o h2 hw hst x
  · by_cases hx : x = 10
    · subst hx
      rw [one_end h03] at hr
      exact one_x3 c o h03 hw hst hr
    · rw [one_grow h03 hx] at hr
      exact one_x4 c hleft o h03 hw hst x hx hr
/-- What Feed leaves: the document's reader, what has turned. -/
def FedX (F : List Nat) (w : World) (g : Nat) (r : ChP) (w' : World) : Prop := ∃ F', CkR F' w' g r ∧ Grew F F' w w'
theorem FedX.low {F : List Nat} {w w' w2 : World} {g : Nat} {r : ChP} (h : FedX F w g r w') (hm : Mods [] w' w2) : FedX F w g r w2 := by
  obtain ⟨F', a, hg⟩ := h
  exact ⟨F', a.low hm, hg.low hm⟩
theorem TookXc.fed {g : Nat} {vl vb vt : Value} {w w' : World} {r : ChP} (t : TookXc g vl vb vt w r w') (o : ChOk r) : FedX (rdb g vl vb vt) w g r w' := by
  obtain ⟨ul, ub, ut, L, state, left, e, c, hr, hg⟩ := t
  exact ⟨rdb g ul ub ut, ⟨⟨ul, ub, ut, L, state, left, e, c, rfl, hr⟩, o⟩, hg⟩
set_option maxRecDepth 10000 in
set_option maxHeartbeats 2000000 in
theorem feed_x {F : List Nat} {w : World} {g : Nat} {r : ChP} (p : Value) (l : List UInt8) (hp : BsAt w p l) (hF : 0 < l.length → ∀ k ∈ p.ownBlock.toList, k ∉ F) (a : CkR F w g r) (hl : l.length ≤ 1000000) :
    Calls Tryz.prog 45 #[ptr g, p] w fun z w' => z = .returned (.tuple #[.int .i64 ((feedP r l).2 : Nat), .bool (feedP r l).1.whole, .int .i64 (feedP r l).1.status]) ∧ Hid (FedX F w g (feedP r l).1 w') := by
  have HP := Lib.hid hp
  have HFF := Lib.hid hF
  have OK := Lib.hid a.ok
  have HA := Lib.hid (show FedX F w g r w from ⟨F, a, Grew.refl F w⟩)
  obtain ⟨A, c, rfl⟩ := hp.len
  clear hp hF a
  unfold ptr
  go_enter Tryz.func45, Tryz.ntmps45
  go_wp2
  go_loopw [7] (fun n wr => ∃ (k : Nat) (r1 : ChP), k ≤ l.length ∧ n = .int .i64 k ∧ Hid (Fed r l k r1) ∧ Hid (FedX F w g r1 wr)) (fun n _ => l.length - (intOf n).toNat)
  case atStart => exact ⟨0, r, Nat.zero_le _, rfl, Lib.hid (Fed.start r l), HA⟩
  case round =>
    obtain ⟨k, r1, hk, rfl, HFD, HC⟩ := hrel
    clear HA
    have HO := Lib.hid (HFD.out.ok OK.out)
    obtain ⟨F1, a1, hg1⟩ := HC.out
    obtain ⟨vl, vb, vt, L, state, left, e, cc, hF1, hz⟩ := a1.ex
    have d6 : wr.cell? ⟨g, 2, none⟩ = some (.bool r1.whole) := (CkX.facts cc).2.2.1
    have d7 : wr.cell? ⟨g, 3, none⟩ = some (.int .i64 r1.status) := (CkX.facts cc).2.2.2.1
    by_cases hstop : doneC r1 = true ∨ l.length ≤ k
    · have HE := Lib.hid (HFD.out.stop hstop)
      have hcase : l.length ≤ k ∨ (k < l.length ∧ (r1.whole = true ∨ (r1.whole = false ∧ (r1.status == 0) = false))) := by
        rcases (by omega : l.length ≤ k ∨ k < l.length) with h | h
        · exact .inl h
        · refine .inr ⟨h, ?_⟩
          have hd := hstop.resolve_right (by omega)
          unfold doneC at hd
          cases hw : r1.whole with
          | true => exact .inl rfl
          | false =>
            rw [hw, Bool.false_or] at hd
            exact .inr ⟨rfl, by rw [beq_eq_false_iff_ne]; exact of_decide_eq_true hd⟩
      clear hstop a1 hg1 cc hF1 hz
      obtain ⟨bw, hbw⟩ : ∃ bw, bw = r1.whole := ⟨_, rfl⟩
      obtain ⟨bs, hbs⟩ : ∃ bs, bs = r1.status := ⟨_, rfl⟩
      rw [← hbw] at d6 hcase
      rw [← hbs] at d7 hcase
      have HBW := Lib.hid hbw.symm
      have HBS := Lib.hid hbs.symm
      clear hbw hbs
      rcases hcase with h | ⟨h, rfl | ⟨rfl, h2⟩⟩
      · obtain rfl : k = l.length := by omega
        go_upto_region 5 with fail
        go_quiet (fail)
        go_wp2
        go_ret3
        exact ⟨by rw [HE.out, ← HBW.out, ← HBS.out]; rfl, Lib.hid (by rw [HE.out]; exact HC.out.low ((Mods.refl _ _).drewN _))⟩
      · go_upto_region 5 with fail
        go_quiet (fail)
        go_wp2
        go_ret3
        exact ⟨by rw [HE.out, HBW.out, ← HBS.out]; rfl, Lib.hid (by rw [HE.out]; exact HC.out.low ((Mods.refl _ _).drewN _))⟩
      · go_upto_region 5 with fail
        go_quiet (fail)
        go_wp2
        go_ret3
        exact ⟨by rw [HE.out, HBW.out, ← HBS.out]; rfl, Lib.hid (by rw [HE.out]; exact HC.out.low ((Mods.refl _ _).drewN _))⟩
    · rw [not_or] at hstop
      have hd : doneC r1 = false := by simpa using hstop.1
      obtain ⟨h1, h2⟩ := done_no hd
      have hlt : k < l.length := by omega
      obtain ⟨rfl, rfl, hleft, rfl⟩ := hz hd
      rw [h1] at d6
      rw [h2] at d7
      rw [h1, h2] at cc
      obtain ⟨b, off, hv, hcell⟩ : ∃ b off, A = some ⟨b, off, none⟩ ∧ wr.cell? ⟨b, off + k, none⟩ = some (.int .u8 (l[k].toNat : Int)) := by
        rcases HP.out with ⟨e, _⟩ | ⟨b, off, cap, hv, _, hbl, _, _, hc⟩
        · rw [e] at hlt; simp at hlt
        · injection hv with e1 e2 e3
          subst e1
          exact ⟨b, off, rfl, cell_mods (hc k hlt) hg1.mods (HFF.out (by omega) b (by simp [Value.ownBlock]))⟩
      subst hv
      have HT := Lib.hid (one_x cc hleft a1.ok h1 h2 l[k] rfl)
      have HN := Lib.hid (HFD.out.next hlt hd)
      have HG1 := Lib.hid hg1
      have HO2 := Lib.hid (a1.ok.one l[k])
      have HF1 := Lib.hid hF1
      clear hstop hd h1 h2 a1 hg1 cc hF1 hz HC hleft
      obtain ⟨x, hx⟩ : ∃ x, x = l[k] := ⟨_, rfl⟩
      rw [← hx] at HT HN HO2 hcell
      clear hx
      obtain ⟨r2, hr2⟩ : ∃ r2, r2 = oneP r1 x := ⟨_, rfl⟩
      rw [← hr2] at HT HN HO2
      clear hr2
      unfold ptr at HT
      go_wp2_with (go_at_call 55; refine HT.out.mono ?_; rintro z w2 ⟨rfl, hk2⟩; have HK := Lib.hid hk2.out; clear hk2)
      go_roundw
      case rel =>
        refine ⟨k + 1, r2, by omega, by go_num, HN, Lib.hid ?_⟩
        obtain ⟨F3, a3, hg3⟩ := HK.out.fed HO2.out
        rw [HF1.out] at HG1
        exact ⟨F3, a3, HG1.out.trans hg3⟩
      case measure => simp [intOf]; omega
end Go.Proofs.YtgkhelbpccehcaaGreatDoor

/- What stage 15's laws compare with, and the body that they know. Conditions: rows of at most a million bytes; the library's table of bits is laid. -/
namespace Go.Proofs.YtgkhelbpccehcaaGreatDoor
open Go.RowKit
set_option linter.unusedVariables false
set_option linter.unusedSimpArgs false

theorem Drawn.mods15 {w w' : World} (h : Drawn w w') : Mods [] w w' := by obtain ⟨n, rfl⟩ := h; exact (Mods.refl [] w).drewN n
theorem byte_eq15 {a b : UInt8} (h : a = b) : ((a.toNat : Int) != (b.toNat : Int)) = false := by rw [h]; simp
theorem byte_ne15 {a b : UInt8} (h : a ≠ b) : ((a.toNat : Int) != (b.toNat : Int)) = true := by
  simp only [bne, Bool.not_eq_true', beq_eq_false_iff_ne]
  intro e
  exact h (UInt8.toNat_inj.1 (by omega))
set_option maxRecDepth 10000 in
set_option maxHeartbeats 1000000 in
theorem same_l15 (A B : List UInt8) (va vb : Value) (w : World) (ha : BsAt w va A) (hb : BsAt w vb B) {r : Bool} (hr : decide (A = B) = r) :
    Calls Tryz.prog 23 #[va, vb] w fun e w' => e = .returned (.bool r) ∧ Drawn w w' := by
  by_cases hl : A.length = B.length
  · have h1 : ((A.length : Int) != (B.length : Int)) = false := by simp [hl]
    by_cases h0 : A.length = 0
    · obtain rfl : A = [] := List.eq_nil_of_length_eq_zero h0
      obtain rfl : B = [] := List.eq_nil_of_length_eq_zero (by rw [← hl]; rfl)
      obtain rfl : true = r := by rw [← hr]; rfl
      obtain ⟨a, ca, rfl⟩ := ha.len
      obtain ⟨b, cb, rfl⟩ := hb.len
      clear ha hb hr
      go_enter Tryz.func23, Tryz.ntmps23
      go_wp2
      refine wp_loop_rounds 1 ?_
      rw [rounds_succ]
      go_wp2
      go_ret
      exact ⟨rfl, Drawn.refl _⟩
    · rcases ha with ⟨rfl, _⟩ | ⟨b1, o1, c1, rfl, -, hb1, hcap1, hmx1, hc1⟩
      · exact absurd rfl h0
      rcases hb with ⟨rfl, _⟩ | ⟨b2, o2, c2, rfl, -, hb2, hcap2, hmx2, hc2⟩
      · exact absurd hl h0
      have HL := Lib.hid hl
      have HRR := Lib.hid hr
      have hl2 : A.length ≤ B.length := by omega
      clear hl h0 hr
      have HC1 := Lib.hid hc1
      have HC2 := Lib.hid hc2
      clear hc1 hc2
      go_enter Tryz.func23, Tryz.ntmps23
      go_wp2
      go_loopw [5] (fun i wr => ∃ (k : Nat), k ≤ A.length ∧ i = .int .i64 k ∧ Drawn w wr ∧ ∀ j (h : j < A.length) (h2 : j < B.length), j < k → A[j] = B[j]) (fun i _ => A.length - (intOf i).toNat)
      case atStart => exact ⟨0, Nat.zero_le _, rfl, Drawn.refl _, fun j _ _ h => absurd h (by omega)⟩
      case round =>
        obtain ⟨k, hk, rfl, hd, hall⟩ := hrel
        have HA := Lib.hid hall
        clear hall
        by_cases hlt : k < A.length
        · have hlt2 : k < B.length := by omega
          have e1 : wr.cell? ⟨b1, o1 + k, none⟩ = some (.int .u8 (A[k].toNat : Int)) := by obtain ⟨m, rfl⟩ := hd; exact HC1.out k hlt
          have e2 : wr.cell? ⟨b2, o2 + k, none⟩ = some (.int .u8 (B[k].toNat : Int)) := by obtain ⟨m, rfl⟩ := hd; exact HC2.out k hlt2
          by_cases he : A[k] = B[k]
          · have hne := byte_eq15 he
            have HE := Lib.hid he
            clear he
            go_wp2
            go_quiet (fail)
            go_wp2
            go_roundw
            case rel =>
              refine ⟨k + 1, by omega, by go_num, hd.more _, fun j h h2 hj => ?_⟩
              by_cases e : j = k
              · subst e; exact HE.out
              · exact HA.out j h h2 (by omega)
            case measure => simp [intOf]; omega
          · have hne := byte_ne15 he
            have HE := Lib.hid (decide_eq_false (show ¬ A = B from fun e => he (by subst e; rfl)))
            clear he
            go_wp2
            go_quiet (fail)
            go_wp2
            go_ret
            exact ⟨by rw [← HRR.out, HE.out]; rfl, hd.more _⟩
        · have HE := Lib.hid (decide_eq_true (show A = B from List.ext_getElem HL.out fun j h h2 => HA.out j h h2 (by omega)))
          go_wp2
          go_ret
          exact ⟨by rw [← HRR.out, HE.out]; rfl, hd⟩
  · have h1 : ((A.length : Int) != (B.length : Int)) = true := by simp; omega
    have HE := Lib.hid (decide_eq_false (show ¬ A = B from fun e => hl (by rw [e])))
    obtain ⟨a, ca, rfl⟩ := ha.len
    obtain ⟨b, cb, rfl⟩ := hb.len
    have HRR := Lib.hid hr
    clear ha hb hl hr
    go_enter Tryz.func23, Tryz.ntmps23
    go_wp2
    go_ret
    exact ⟨by rw [← HRR.out, HE.out]; rfl, Drawn.refl _⟩
set_option maxRecDepth 10000 in
set_option maxHeartbeats 1000000 in
theorem fields_l15 (A B : List FV) (va vb : Value) (w : World) (ha : FsAt w va A) (hb : FsAt w vb B) (hA : A.length ≤ 1000000) (hB : B.length ≤ 1000000) :
    Calls Tryz.prog 30 #[va, vb] w fun e w' => e = .returned (.bool (decide (A = B))) ∧ Drawn w w' := by
  by_cases hl : A.length = B.length
  · have h1 : ((A.length : Int) != (B.length : Int)) = false := by simp [hl]
    by_cases h0 : A.length = 0
    · obtain rfl : A = [] := List.eq_nil_of_length_eq_zero h0
      obtain rfl : B = [] := List.eq_nil_of_length_eq_zero (by rw [← hl]; rfl)
      obtain ⟨a, ca, rfl⟩ := ha.len
      obtain ⟨b, cb, rfl⟩ := hb.len
      clear ha hb
      go_enter Tryz.func30, Tryz.ntmps30
      go_wp2
      refine wp_loop_rounds 1 ?_
      rw [rounds_succ]
      go_wp2
      go_ret
      exact ⟨rfl, Drawn.refl _⟩
    · rcases ha with ⟨rfl, _⟩ | ⟨b1, o1, c1, rfl, -, hb1, hc1⟩
      · exact absurd rfl h0
      rcases hb with ⟨rfl, _⟩ | ⟨b2, o2, c2, rfl, -, hb2, hc2⟩
      · exact absurd hl h0
      have HL := Lib.hid hl
      have hl2 : A.length ≤ B.length := by omega
      clear hl h0
      have HC1 := Lib.hid hc1
      have HC2 := Lib.hid hc2
      clear hc1 hc2
      go_enter Tryz.func30, Tryz.ntmps30
      go_wp2
      go_loopw [5] (fun i wr => ∃ (k : Nat), k ≤ A.length ∧ i = .int .i64 k ∧ Drawn w wr ∧ ∀ j (h : j < A.length) (h2 : j < B.length), j < k → A[j] = B[j]) (fun i _ => A.length - (intOf i).toNat)
      case atStart => exact ⟨0, Nat.zero_le _, rfl, Drawn.refl _, fun j _ _ h => absurd h (by omega)⟩
      case round =>
        obtain ⟨k, hk, rfl, hd, hall⟩ := hrel
        have HA := Lib.hid hall
        clear hall
        by_cases hlt : k < A.length
        · have hlt2 : k < B.length := by omega
          have e1 : wr.cell? ⟨b1, o1 + k * 2, none⟩ = some (.string (A[k].1)) := by obtain ⟨m, rfl⟩ := hd; exact (HC1.out k hlt).1
          have e2 : wr.cell? ⟨b2, o2 + k * 2, none⟩ = some (.string (B[k].1)) := by obtain ⟨m, rfl⟩ := hd; exact (HC2.out k hlt2).1
          have e3 : wr.cell? ⟨b1, o1 + k * 2 + 1, none⟩ = some (.string (A[k].2)) := by obtain ⟨m, rfl⟩ := hd; exact (HC1.out k hlt).2
          have e4 : wr.cell? ⟨b2, o2 + k * 2 + 1, none⟩ = some (.string (B[k].2)) := by obtain ⟨m, rfl⟩ := hd; exact (HC2.out k hlt2).2
          by_cases he : A[k].1 = B[k].1
          · have hne := (bytes_eqB (show A[k].1 = B[k].1 by rw [he])).1
            by_cases he2 : A[k].2 = B[k].2
            · have hne2 := (bytes_eqB (show A[k].2 = B[k].2 by rw [he2])).1
              have HE := Lib.hid (show A[k] = B[k] from Prod.ext he he2)
              clear he he2
              go_wp2
              go_quiet (fail)
              go_wp2
              go_roundw
              case rel =>
                refine ⟨k + 1, by omega, by go_num, hd.more _, fun j h h2 hj => ?_⟩
                by_cases e : j = k
                · subst e; exact HE.out
                · exact HA.out j h h2 (by omega)
              case measure => simp [intOf]; omega
            · have hne2 := (bytes_neB he2).1
              have HE := Lib.hid (decide_eq_false (show ¬ A = B from fun e => he2 (by subst e; rfl)))
              clear he he2
              go_wp2
              go_quiet (fail)
              go_wp2
              go_ret
              exact ⟨by rw [HE.out]; rfl, hd.more _⟩
          · have hne := (bytes_neB he).1
            have HE := Lib.hid (decide_eq_false (show ¬ A = B from fun e => he (by subst e; rfl)))
            clear he
            go_wp2
            go_quiet (fail)
            go_wp2
            go_ret
            exact ⟨by rw [HE.out]; rfl, hd.more _⟩
        · have HE := Lib.hid (decide_eq_true (show A = B from List.ext_getElem HL.out fun j h h2 => HA.out j h h2 (by omega)))
          go_wp2
          go_ret
          exact ⟨by rw [HE.out]; rfl, hd⟩
  · have h1 : ((A.length : Int) != (B.length : Int)) = true := by simp; omega
    have HE := Lib.hid (decide_eq_false (show ¬ A = B from fun e => hl (by rw [e])))
    obtain ⟨a, ca, rfl⟩ := ha.len
    obtain ⟨b, cb, rfl⟩ := hb.len
    clear ha hb hl
    go_enter Tryz.func30, Tryz.ntmps30
    go_wp2
    go_ret
    exact ⟨by rw [HE.out]; rfl, Drawn.refl _⟩
end Go.Proofs.YtgkhelbpccehcaaGreatDoor

/- Rows with marked room behind them, as stage 15's law makes and holds them. Conditions: rows of at most a million bytes. -/
namespace Go.Proofs.YtgkhelbpccehcaaGreatDoor
open Go.RowKit
set_option linter.unusedVariables false
set_option linter.unusedSimpArgs false

theorem one_171x (w : World) : BsAt (w.alloc (.cells #[.int .u8 171] 5)) (.slice (some ⟨w.heap.size, 0, none⟩) 1 1) [171] := BsAt.new w [171] (by decide) (by decide)
set_option maxRecDepth 10000 in
set_option maxHeartbeats 1000000 in
theorem roomy_l15 (l : List UInt8) (v : Value) (w : World) (h : BsAt w v l) (hl : l.length ≤ 1000000) :
    Calls Tryz.prog 10 #[v] w fun z w' => ∃ a c, z = .returned (.slice a (l.length + 1) c) ∧ Hid (BsAt w' (.slice a (l.length + 1) c) (l ++ [171]) ∧ Mods [] w w' ∧ ∀ k ∈ (Value.slice a (l.length + 1) c).ownBlock.toList, w.heap.size ≤ k) := by
  obtain ⟨A, cp, rfl⟩ := h.len
  have m0 : Mods [] w (w.alloc (.cells #[] 5)) := (Mods.refl [] w).alloc _
  obtain ⟨a1, n1, c1, w1, hrun1, g1⟩ := app_bs (gb_madeB w) (h.low m0) (by simp; omega)
  rw [List.nil_append] at g1
  have q1 : Mods [] w1 (w1.alloc (.cells #[.int .u8 171] 5)) := (Mods.refl [] w1).alloc _
  obtain ⟨a2, n2, c2, w2, hrun2, g2⟩ := app_bs (g1.on q1) (one_171x w1) (by simp; omega)
  have q2 : Mods [] w2 (w2.alloc (.cells #[.int .u8 171] 5)) := (Mods.refl [] w2).alloc _
  obtain ⟨a3, n3, c3, w3, hrun3, g3⟩ := app_bs (g2.on q2) (one_171x w2) (by rw [List.length_append]; simp; omega)
  have hn3 : n3 = l.length + 2 := by
    obtain ⟨ax, cx, hv⟩ := g3.form
    injection hv with _ e _
    rw [e]; simp
  have hc3 : n3 ≤ c3 := by
    rcases g3.at with ⟨e, _⟩ | ⟨_, _, _, hv, _, _, h1, _⟩
    · simp at e
    · injection hv with _ e e2; omega
  have hbs := g3.at.to (l.length + 1) (by omega)
  have htk : (l ++ [171] ++ [171]).take (l.length + 1) = l ++ [(171 : UInt8)] := by
    rw [List.append_assoc, List.take_append, List.take_of_length_le (by omega)]
    simp
  rw [htk] at hbs
  have HB := Lib.hid (And.intro hbs (And.intro g3.mods (show ∀ k ∈ (Value.slice a3 (l.length + 1) c3).ownBlock.toList, w.heap.size ≤ k from fun k hk => g3.news k (by rw [cut0_block a3 (l.length + 1) c3 n3 c3] at hk; exact hk))))
  subst hn3
  clear g1 g2 g3 hbs htk q1 q2 m0 h
  have hl2 : l.length + 1 ≤ c3 := by omega
  go_enter Tryz.func10, Tryz.ntmps10
  go_wp2_with (first
    | (at_builtin; refine wpList_run_app2 rfl (.tmp 3) (.tmp 4) 22 22 rfl rfl rfl hrun1 ?_)
    | (at_builtin; refine wpList_run_app2 rfl (.tmp 5) (.tmp 6) 22 22 rfl rfl rfl hrun2 ?_)
    | (at_builtin; refine wpList_run_app2 rfl (.tmp 7) (.tmp 8) 22 22 rfl rfl rfl hrun3 ?_))
  go_ret
  exact ⟨a3, c3, rfl, HB⟩
set_option maxRecDepth 10000 in
set_option maxHeartbeats 1000000 in
theorem stands_l15 (l : List UInt8) (a : Option Addr) (c : Nat) (v : Value) (w : World) (hw : BsAt w (.slice a (l.length + 1) c) (l ++ [171])) (h : BsAt w v l) (hl : l.length ≤ 1000000) :
    Calls Tryz.prog 17 #[.slice a (l.length + 1) c, v] w fun z w' => z = .returned (.bool true) ∧ Drawn w w' := by
  obtain ⟨A, cp, rfl⟩ := h.len
  have hcut := hw.to l.length (by omega)
  rw [List.take_left'] at hcut
  · have HS := Lib.hid (same_l15 l l _ _ w hcut h (r := true) (decide_eq_true rfl))
    obtain ⟨b, off, rfl, hcell, hcp⟩ : ∃ b off, a = some ⟨b, off, none⟩ ∧ (∀ n, (w.drewN n).cell? ⟨b, off + l.length, none⟩ = some (.int .u8 171)) ∧ l.length + 1 ≤ c := by
      rcases hw with ⟨e, _⟩ | ⟨b, off, cap, hv, _, _, h1, _, hc⟩
      · simp at e
      · injection hv with e1 e2 e3
        subst e1
        refine ⟨b, off, rfl, fun n => ?_, by omega⟩
        have h9 := hc l.length (by simp)
        have e9 : (l ++ [(171 : UInt8)])[l.length]'(by simp) = 171 := by simp
        rw [e9] at h9
        exact h9
    have HC := Lib.hid hcell
    clear hw hcut h hcell
    go_enter Tryz.func17, Tryz.ntmps17
    go_wp2_with (go_at_call 23; refine HS.out.mono ?_; rintro z w1 ⟨rfl, hd⟩; have HD := Lib.hid hd; obtain ⟨q, rfl⟩ := hd; have hcl := HC.out q)
    go_ret
    exact ⟨rfl, HD.out⟩
  · rfl
end Go.Proofs.YtgkhelbpccehcaaGreatDoor

/- Requests, byte by byte: plain functions of chapter 15. No program but for what Parse answers. -/
namespace Go.Proofs.YtgkhelbpccehcaaGreatDoor
open Go.RowKit
set_option linter.unusedVariables false
set_option linter.unusedSimpArgs false

/-- Where a parser is: 0 idle, 1 in the head, 2 in the body, 3 whole, 4 refused. -/
structure PrP where
  phase : Nat
  status : Int
  head : HdP
  line : List UInt8
  how : HowP
  body : List UInt8
  ch : ChP
  came : Bool
def newR : PrP := ⟨0, 0, newH, [], noH, [], newC, false⟩
def badR (p : PrP) (s : Int) : PrP := { p with phase := 4, status := s }
/-- The head is whole. -/
def begR (p : PrP) (h : HdP) : PrP :=
  { p with head := h, line := [], how := h.how, body := [], came := false, ch := newC, phase := if h.how.kind = 0 ∨ (h.how.kind = 1 ∧ h.how.length = 0) then 3 else 2 }
/-- The end of a line. -/
def lendR (p : PrP) : PrP :=
  if p.line.getLast? = some 13 then
    (if (lineP p.head (ofL p.line.dropLast)).status ≠ 0 then badR { p with line := [], head := lineP p.head (ofL p.line.dropLast) } (lineP p.head (ofL p.line.dropLast)).status
     else if (lineP p.head (ofL p.line.dropLast)).whole = true then begR p (lineP p.head (ofL p.line.dropLast))
     else { p with line := [], head := lineP p.head (ofL p.line.dropLast) })
  else badR p 400
def lgrowR (p : PrP) (c : UInt8) : PrP := if 256 < cntL p.line c then badR { p with line := p.line ++ [c] } (longS p.head) else { p with line := p.line ++ [c] }
def headR (p : PrP) (c : UInt8) : PrP := if c = 10 then lendR p else lgrowR p c
/-- A byte of the body. -/
def moreR (p : PrP) (c : UInt8) : PrP :=
  if p.how.kind = 1 then { p with came := true, body := p.body ++ [c], phase := if ((p.body.length + 1 : Nat) : Int) = p.how.length then 3 else 2 }
  else if (oneP p.ch c).status ≠ 0 then badR { p with came := true, ch := oneP p.ch c, body := (oneP p.ch c).body } (oneP p.ch c).status
  else { p with came := true, ch := oneP p.ch c, body := (oneP p.ch c).body, phase := if (oneP p.ch c).whole = true then 3 else 2 }
def oneR (p : PrP) (c : UInt8) : PrP :=
  if p.phase = 2 then moreR p c
  else if p.phase = 0 then headR { p with phase := 1, head := newH, line := [] } c
  else headR p c
def doneR (p : PrP) : Bool := decide (3 ≤ p.phase)
/-- A request as data. -/
structure RqP where
  meth : ByteArray
  tgt : Tgt
  minor : Int
  fields : List FV
  body : List UInt8
  close : Bool
  expect : Bool
def rqOf (p : PrP) : RqP := ⟨p.head.meth, p.head.tgt, p.head.minor, p.head.S, p.body, p.how.close, p.how.expect⟩
def noRq : RqP := ⟨noB, noT, 0, [], [], false, false⟩
def takeR (p : PrP) : PrP × RqP × Int := if p.phase = 3 then ({ p with phase := 0 }, rqOf p, 0) else (p, noRq, 4)
def waitsR (p : PrP) : Bool := decide (p.phase = 2) && p.how.expect && !p.came
/-- What a parser is behind bytes; how many it took. -/
def feedR : PrP → List UInt8 → PrP × Nat
  | r, [] => (r, 0)
  | r, c :: l => if doneR r = true then (r, 0) else ((feedR (oneR r c) l).1, (feedR (oneR r c) l).2 + 1)
theorem feedR_nil (r : PrP) : feedR r [] = (r, 0) := rfl
theorem feedR_done {r : PrP} (h : doneR r = true) : ∀ l, feedR r l = (r, 0)
  | [] => rfl
  | c :: l => by rw [feedR, if_pos h]
theorem feedR_cons {r : PrP} (h : doneR r = false) (c : UInt8) (l : List UInt8) : feedR r (c :: l) = ((feedR (oneR r c) l).1, (feedR (oneR r c) l).2 + 1) := by rw [feedR, if_neg (by rw [h]; simp)]
theorem feedR_le : ∀ (l : List UInt8) (r : PrP), (feedR r l).2 ≤ l.length
  | [], r => Nat.le_refl _
  | c :: l, r => by
    cases h : doneR r with
    | true => rw [feedR_done h]; exact Nat.zero_le _
    | false => rw [feedR_cons h]; have := feedR_le l (oneR r c); simp only [List.length_cons]; omega
/-- However the bytes are parted. -/
theorem feedR_app : ∀ (a b : List UInt8) (r : PrP), feedR r (a ++ b) = ((feedR (feedR r a).1 b).1, (feedR r a).2 + (feedR (feedR r a).1 b).2)
  | [], b, r => by rw [feedR_nil, List.nil_append, Nat.zero_add]
  | c :: a, b, r => by
    cases h : doneR r with
    | true => rw [feedR_done h, feedR_done h]; show (r, 0) = ((feedR r b).1, 0 + (feedR r b).2); rw [feedR_done h]; rfl
    | false =>
      rw [List.cons_append, feedR_cons h, feedR_cons h, feedR_app a b (oneR r c)]
      show ((feedR (feedR (oneR r c) a).1 b).1, (feedR (oneR r c) a).2 + (feedR (feedR (oneR r c) a).1 b).2 + 1) = ((feedR (feedR (oneR r c) a).1 b).1, (feedR (oneR r c) a).2 + 1 + (feedR (feedR (oneR r c) a).1 b).2)
      congr 1
      omega
/-! Ways that end nowhere. -/
/-! Lines. -/
/-! Bodies with a length. -/
end Go.Proofs.YtgkhelbpccehcaaGreatDoor

/- What chapter 15's laws ask of a parser, in plain terms. No program but for what Parse answers. -/
namespace Go.Proofs.YtgkhelbpccehcaaGreatDoor
open Go.RowKit
set_option linter.unusedVariables false
set_option linter.unusedSimpArgs false

/-! Start lines. -/
def crlf : List UInt8 := [13, 10]
/-! Heads with a length. -/
/-! The bytes that the laws know. -/
def knR : List UInt8 := [71, 69, 84, 32, 47, 32, 72, 84, 84, 80, 47, 49, 46, 48, 13, 10, 13, 10, 71, 69, 84]
theorem knR_feed : (feedR newR knR).2 = 18 ∧ (feedR newR knR).1.phase = 3 ∧ (rqOf (feedR newR knR).1).close = true ∧ (rqOf (feedR newR knR).1).minor = 0 ∧ (rqOf (feedR newR knR).1).tgt.path = ⟨#[47]⟩ := by decide +kernel

/-! A line that is too long. -/
end Go.Proofs.YtgkhelbpccehcaaGreatDoor

/- Requests with a length, as chapter 15's laws make them. No program but for what Parse answers. -/
namespace Go.Proofs.YtgkhelbpccehcaaGreatDoor
open Go.RowKit
set_option linter.unusedVariables false
set_option linter.unusedSimpArgs false

end Go.Proofs.YtgkhelbpccehcaaGreatDoor
