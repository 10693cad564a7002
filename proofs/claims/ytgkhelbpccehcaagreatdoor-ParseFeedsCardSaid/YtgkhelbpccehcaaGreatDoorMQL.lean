/- The document's parser: a byte of a head, a byte. Conditions: none. -/
import Derived.Test.YtgkhelbpccehcaaGreatDoorMQK
import Derived.Test.YtgkhelbpccehcaaGreatDoorMQJ
import Derived.Deep.CutBlock
import Derived.Deep.RegionHeld3
namespace Go.Proofs.YtgkhelbpccehcaaGreatDoor
open Go.RowKit
set_option linter.unusedVariables false
set_option linter.unusedSimpArgs false

theorem pxl_lined {g hb : Nat} {vl vb bv cv : Value} {FH FC : List Nat} {w w' : World} {L B : List UInt8} {h : HowP} {cm : Bool} {h' : HdP} (c : PxM g vl vb (ptr hb) bv cv FH FC w 1 0 L B h cm) (l : LinedX FH w hb h' w') :
    ∃ FH', HdR FH' w' hb h' ∧ PxM g vl vb (ptr hb) bv cv FH' FC w' 1 0 L B h cm ∧ Grew (pab g vl vb FH FC) (pab g vl vb FH' FC) w w' := by
  obtain ⟨F', a, hm, hn⟩ := l
  obtain ⟨k1, k2⟩ := PM.newH c ⟨hm, hn⟩ a.lt
  exact ⟨F', a, k1, k2⟩
set_option maxRecDepth 10000 in
set_option maxHeartbeats 16000000 in
theorem onehead_1 {P : PrP} {g hb : Nat} {vl vb bv cv : Value} {FH FC : List Nat} {w : World} {B : List UInt8} {h : HowP} {cm : Bool} (o : PrOk P) (h1 : P.phase = 1) (c : PxM g vl vb (ptr hb) bv cv FH FC w 1 0 P.line B h cm) (a : HdR FH w hb P.head) (hbv : ∃ x y z, bv = .slice x y z) (x : UInt8) :
    Calls Tryz.prog 25 #[ptr g, .int .u8 (x.toNat : Int)] w fun z w' => z = .returned (.tuple #[]) ∧ Hid (FedQ (pab g vl vb FH FC) w g (headR P x) w') := by
  have O1 := Lib.hid o
  have H1 := Lib.hid h1
  have K1 := Lib.hid c
  have A1 := Lib.hid a
  have HBV := Lib.hid hbv
  obtain ⟨vl0, hvl0⟩ : ∃ v, v = vl := ⟨_, rfl⟩
  obtain ⟨FH0, hFH0⟩ : ∃ v, v = FH := ⟨_, rfl⟩
  rw [← hvl0, ← hFH0]
  have G1 := Lib.hid (show Grew (pab g vl0 vb FH0 FC) (pab g vl vb FH FC) w w by rw [hvl0, hFH0]; exact Grew.refl _ w)
  have c0 : w.cell? ⟨g, 0, none⟩ = some (.int .i64 1) := c.row.cell 0
  clear o h1 c a hbv hvl0 hFH0
  unfold ptr
  rcases is14 x 10 10 rfl (by decide) with ⟨ex, hx, -⟩ | ⟨ex, hx, -⟩
  · have HQ := Lib.hid (show headR P x = lendR P by rw [ex]; exact headR_10 _)
    have OL := Lib.hid (show PrOk (lendR P) by rw [← HQ.out]; exact O1.out.headR H1.out x)
    obtain ⟨hwh, hhs, hlen⟩ := O1.out.live H1.out
    have c3 : w.cell? ⟨g, 3, none⟩ = some vl := K1.out.row.cell 3
    have hat := K1.out.line.at
    have HBX := Lib.hid (bad_x K1.out 400)
    unfold ptr at HBX
    clear ex
    cases hcr : crE P.line with
    | false =>
      have HE := Lib.hid (lend_bad hcr)
      rcases hat with ⟨hl0, A, cp, rfl⟩ | ⟨b, off, cp, rfl, hpos, hb4, hc1, hc2, hcell⟩
      · clear hcr hwh hhs hlen
        go_enter Tryz.func25, Tryz.ntmps25
        go_wp2_with (go_at_call 34; refine HBX.out.mono ?_; rintro z w5 ⟨rfl, hk⟩; have HK := Lib.hid hk; clear hk)
        refine bodyPost_ret (results_none rfl _ _ _) rfl ?_
        refine ⟨rfl, Lib.hid ?_⟩
        rw [HQ.out, HE.out]
        exact FedQ.trans G1.out (px_refused K1.out (by rw [← HE.out]; exact OL.out) HK.out HBV.out)
      · obtain ⟨n, hn⟩ : ∃ n, P.line.length = n + 1 := ⟨P.line.length - 1, by omega⟩
        have hnl : n < P.line.length := by omega
        have hlast : P.line[n] ≠ 13 := by
          intro e
          unfold crE at hcr
          refine of_decide_eq_false hcr ?_
          rw [List.getLast?_eq_getElem?, hn, Nat.add_sub_cancel, List.getElem?_eq_getElem hnl, e]
        have hce := hcell n hnl
        obtain ⟨y, hy⟩ : ∃ y, y = P.line[n] := ⟨_, rfl⟩
        rw [← hy] at hce hlast
        rcases is14 y 13 13 rfl (by decide) with ⟨ex, -, -⟩ | ⟨-, -, hx2⟩
        · exact absurd ex hlast
        have hz : (((n : Int) + 1) == 0) = false := by rw [beq_eq_false_iff_ne]; omega
        have hn2 : n ≤ 300 := by omega
        rw [hn] at c3 hc1
        clear hwh hhs hcr hcell hn hnl hlast hy hpos hlen
        go_enter Tryz.func25, Tryz.ntmps25
        go_wp2_with (go_at_call 34; refine HBX.out.mono ?_; rintro z w5 ⟨rfl, hk⟩; have HK := Lib.hid hk; clear hk)
        refine bodyPost_ret (results_none rfl _ _ _) rfl ?_
        refine ⟨rfl, Lib.hid ?_⟩
        rw [HQ.out, HE.out]
        exact FedQ.trans G1.out (px_refused K1.out (by rw [← HE.out]; exact OL.out) HK.out HBV.out)
    | true =>
      obtain ⟨Mm, hM, -⟩ := cr_split15 hcr
      have HE := Lib.hid (lend_ok hM)
      have HW := Lib.hid (And.intro hwh hhs)
      rcases hat with ⟨hl0, A, cp, rfl⟩ | ⟨b, off, cp, rfl, hpos, hb4, hc1, hc2, hcell⟩
      · rw [hM] at hl0; simp at hl0
      have hn : P.line.length = Mm.length + 1 := by rw [hM]; simp
      have hnl : Mm.length < P.line.length := by omega
      have hlast : P.line[Mm.length] = 13 := by simp [hM]
      have hce := hcell Mm.length hnl
      rw [hlast] at hce
      have hbm : BsAt w (.slice (some ⟨b, off, none⟩) Mm.length cp) Mm := by
        have := K1.out.line.at.to Mm.length (by omega)
        rw [hM] at this
        simpa using this
      have hconv := hbm.text
      have p1 := PM.putL (cs' := fun vl _ => pxCells 1 0 (ptr hb) h bv cv cm vl) K1.out (BRow.nil w) (Mods.refl _ w) (fun k hk => by simp [Value.ownBlock] at hk) 3 rfl
      have mb : Mods [g] w (w.setCell ⟨g, 3, none⟩ (.slice none 0 0)) := (Mods.refl [g] w).setCell (.inl (by simp)) _
      obtain ⟨Wb, hWb⟩ : ∃ Wb, Wb = w.setCell ⟨g, 3, none⟩ (.slice none 0 0) := ⟨_, rfl⟩
      rw [← hWb] at p1 mb
      have KB := Lib.hid p1.1
      have GB := Lib.hid (G1.out.trans p1.2)
      have a2 : Wb.cell? ⟨g, 2, none⟩ = some (ptr hb) := p1.1.row.cell 2
      have f3 := K1.out.row.free 3
      have AB := A1.out.mods mb (fun k hk => by simpa using (K1.out.hd k hk).2.1)
      have hn2 : Mm.length ≤ 256 := by omega
      have hz : (((Mm.length : Int) + 1) == 0) = false := by rw [beq_eq_false_iff_ne]; omega
      rw [hn] at c3 hc1
      have HLN := Lib.hid (line_x (ofL Mm) (by rw [ofL_size]; omega) AB)
      obtain ⟨s, hs⟩ : ∃ s, s = ofL Mm := ⟨_, rfl⟩
      rw [← hs] at HLN HE hconv
      obtain ⟨h', hh'⟩ : ∃ h', h' = lineP P.head s := ⟨_, rfl⟩
      rw [← hh'] at HLN HE
      have HLW := Lib.hid (fun (q : h'.whole = true) => show HowOk h'.how by rw [hh'] at q ⊢; exact line_whole hwh hhs q)
      obtain ⟨bw, hbw⟩ : ∃ bw, bw = h'.whole := ⟨_, rfl⟩
      obtain ⟨st, hst⟩ : ∃ st, st = h'.status := ⟨_, rfl⟩
      have HBW := Lib.hid hbw
      have HST := Lib.hid hst
      rw [← hbw, ← hst] at HLN
      unfold ptr at HLN a2
      have hcase : (st != 0) = true ∨ ((st != 0) = false ∧ bw = true) ∨ ((st != 0) = false ∧ bw = false) := by
        cases bw <;> cases (st != 0) <;> simp
      clear hcr hwh hhs hcell hM hpos hb4 hn hnl hlast hbm p1 mb AB hlen hs hh' hbw hst HBX
      generalize Mm.length = ml at *
      go_enter Tryz.func25, Tryz.ntmps25
      go_upto_region 12 with fail
      rw [← hWb]
      clear hWb c3 hce f3
      go_upto_region 13 with (go_at_call 35; refine HLN.out.mono ?_; rintro z w3 ⟨rfl, hk⟩; have HK := Lib.hid hk.out; clear hk)
      obtain ⟨FH', a3, k3, g3⟩ := pxl_lined KB.out HK.out
      have A3 := Lib.hid a3
      have K3 := Lib.hid k3
      have G3 := Lib.hid (GB.out.trans g3)
      clear a3 k3 g3 a2
      rcases hcase with h0 | ⟨h0, rfl⟩ | ⟨h0, rfl⟩
      · have HRF := Lib.hid (bad_x K3.out st)
        unfold ptr at HRF
        go_wp2_with (go_at_call 34; refine HRF.out.mono ?_; rintro z w5 ⟨rfl, hk⟩; have HK5 := Lib.hid hk; clear hk)
        refine bodyPost_ret (results_none rfl _ _ _) rfl ?_
        refine ⟨rfl, Lib.hid ?_⟩
        have hE := HE.out
        rw [if_pos (show h'.status ≠ 0 by rw [← HST.out]; simpa using h0)] at hE
        rw [HQ.out, hE]
        exact FedQ.trans G3.out (px_refused K3.out (by rw [← hE]; exact OL.out) (by rw [← HST.out]; exact HK5.out) HBV.out)
      · have HEH := Lib.hid (begins_x O1.out H1.out K3.out HBV.out A3.out (HLW.out HBW.out.symm))
        unfold ptr at HEH
        go_wp2_with (go_at_call 36; refine HEH.out.mono ?_; rintro z w5 ⟨rfl, hk⟩; have HK5 := Lib.hid hk.out; clear hk)
        refine bodyPost_ret (results_none rfl _ _ _) rfl ?_
        refine ⟨rfl, Lib.hid ?_⟩
        have hE := HE.out
        rw [if_neg (show ¬ h'.status ≠ 0 by rw [← HST.out]; simpa using h0), if_pos HBW.out.symm] at hE
        rw [HQ.out, hE]
        exact FedQ.trans G3.out HK5.out
      · go_wp2
        refine bodyPost_ret (results_none rfl _ _ _) rfl ?_
        refine ⟨rfl, Lib.hid ?_⟩
        have hE := HE.out
        rw [if_neg (show ¬ h'.status ≠ 0 by rw [← HST.out]; simpa using h0), if_neg (show ¬ h'.whole = true by rw [← HBW.out]; simp)] at hE
        have o9 := OL.out
        rw [HQ.out]
        rw [hE] at o9 ⊢
        have h1 := H1.out
        exact FedQ.trans G3.out (FedQ.refl (px_mk o9 (ph := 1) (st := 0) (by show ((P.phase : Nat) : Int) = 1; rw [h1]; rfl) (O1.out.st (by omega)) K3.out (.inr (.inl ⟨h1, rfl, hb, rfl, A3.out⟩)) HBV.out))
  · have HX := Lib.hid (headR_no P (x := x) ex)
    have OX := Lib.hid (show PrOk (lgrowR P x) by rw [← HX.out]; exact O1.out.headR H1.out x)
    obtain ⟨hwh, hhs, hlen⟩ := O1.out.live H1.out
    obtain ⟨A, cp, rfl, -, -⟩ := K1.out.line.form
    have c3 : w.cell? ⟨g, 3, none⟩ = some (.slice A P.line.length cp) := K1.out.row.cell 3
    obtain ⟨b, c', w4, hrun, hrow, hm, hb4⟩ := app_row K1.out.line (by omega) x
    have hput := PM.putL (cs' := fun vl _ => pxCells 1 0 (ptr hb) h bv cv cm vl) K1.out hrow hm (fun k hk => by
      have hkb : k = b := by simpa [Value.ownBlock, eq_comm] using hk
      subst hkb
      rcases hb4 with h | h
      · exact .inl (by rw [← h]; simp)
      · exact .inr h) 3 rfl
    have r4 := K1.out.row.mods hm (fun hk => PM.ne_l K1.out g hk rfl)
    have e3 : w4.cell? ⟨g, 3, none⟩ = some (.slice A P.line.length cp) := r4.cell 3
    have g3 := r4.free 3
    have m5 : Mods (g :: (Value.ownBlock (.slice A P.line.length cp)).toList) w (w4.setCell ⟨g, 3, none⟩ (.slice (some ⟨b, 0, none⟩) (P.line.length + 1) c')) := (hm.more (fun k hk => .inl (by simp [hk]))).setCell (.inl (by simp)) _
    have a5 := A1.out.mods m5 (fun k hk h => by
      have h9 := K1.out.hd k hk
      rcases List.mem_cons.1 h with h | h
      · exact h9.2.1 h
      · exact h9.2.2.1 h)
    obtain ⟨W5, hW5⟩ : ∃ W5, W5 = w4.setCell ⟨g, 3, none⟩ (.slice (some ⟨b, 0, none⟩) (P.line.length + 1) c') := ⟨_, rfl⟩
    rw [← hW5] at hput a5
    have K5 := Lib.hid hput.1
    have G5 := Lib.hid (G1.out.trans hput.2)
    have A5 := Lib.hid a5
    have e5 : W5.cell? ⟨g, 3, none⟩ = some (.slice (some ⟨b, 0, none⟩) (P.line.length + 1) c') := K5.out.row.cell 3
    have e2 : W5.cell? ⟨g, 2, none⟩ = some (ptr hb) := K5.out.row.cell 2
    obtain ⟨hv9, hz9, he9, hx9, -, -⟩ := a5.ex
    have e11 : W5.cell? ⟨hb, 11, none⟩ = some (.bool P.head.started) := hx9.facts.2.2.2.2.2.2.2.2.2.2.2.1
    have HLG := Lib.hid (fun (h : 256 < cntL P.line x) => lgrow_bad (P := P) (x := x) h)
    have HLO := Lib.hid (fun (h : ¬ 256 < cntL P.line x) => lgrow_ok (P := P) (x := x) h)
    have HB1 := Lib.hid (bad_x K5.out 431)
    have HB4 := Lib.hid (bad_x K5.out 414)
    have hlg : longS P.head = if P.head.started = true then 431 else 414 := rfl
    have hcnt : cntL P.line x = if x = 13 then P.line.length else P.line.length + 1 := rfl
    obtain ⟨ls, hls⟩ : ∃ ls, ls = longS P.head := ⟨_, rfl⟩
    obtain ⟨sd, hsd⟩ : ∃ sd, sd = P.head.started := ⟨_, rfl⟩
    rw [← hls] at HLG hlg
    rw [← hsd] at e11 hlg
    obtain ⟨k, hk⟩ : ∃ k, k = cntL P.line x := ⟨_, rfl⟩
    rw [← hk] at hcnt HLG HLO
    obtain ⟨n, hn⟩ : ∃ n, n = P.line.length := ⟨_, rfl⟩
    rw [← hn] at c3 hrun e3 hW5 e5 hlen hcnt
    unfold ptr at e2 HB1 HB4
    have hcase : (x = 13 ∧ k = n) ∨ (x ≠ 13 ∧ k = n + 1) := by
      by_cases h : x = 13
      · rw [if_pos h] at hcnt; exact .inl ⟨h, hcnt⟩
      · rw [if_neg h] at hcnt; exact .inr ⟨h, hcnt⟩
    have hf : ((x.toNat : Int) == 13) = true ∧ k = n ∨ ((x.toNat : Int) == 13) = false ∧ k = n + 1 := by
      rcases hcase with ⟨h13, e⟩ | ⟨h13, e⟩
      · exact .inl ⟨by rw [h13]; rfl, e⟩
      · rcases is14 x 13 13 rfl (by decide) with ⟨ex, -, -⟩ | ⟨-, hx, -⟩
        · exact absurd ex h13
        · exact .inr ⟨hx, e⟩
    clear hput r4 m5 a5 hx9 hrow hm hb4 hwh hhs hn hk hls hsd ex hcnt hcase
    have fin := Lib.hid (fun (hq : ¬ 256 < k) => show FedQ (pab g vl0 vb FH0 FC) w g (headR P x) W5 from by
      have hE := HX.out.trans (HLO.out hq)
      have o9 := OX.out
      rw [HLO.out hq] at o9
      rw [hE]
      have h1 : P.phase = 1 := H1.out
      exact FedQ.trans G5.out (FedQ.refl (px_mk o9 (ph := 1) (st := 0) (by show ((P.phase : Nat) : Int) = 1; rw [h1]; rfl) (O1.out.st (by omega)) K5.out (.inr (.inl ⟨h1, rfl, hb, rfl, A5.out⟩)) HBV.out)))
    have finb := Lib.hid (fun (hq : 256 < k) (w' : World) (hw : w' = (W5.setCell ⟨g, 0, none⟩ (.int .i64 4)).setCell ⟨g, 1, none⟩ (.int .i64 ls)) => show FedQ (pab g vl0 vb FH0 FC) w g (headR P x) w' from by
      have hE := HX.out.trans (HLG.out hq)
      have o9 := OX.out
      rw [HLG.out hq] at o9
      rw [hE]
      exact FedQ.trans G5.out (px_refused K5.out o9 hw HBV.out))
    have hmore : 256 < k ∨ ¬ 256 < k := by omega
    go_enter Tryz.func25, Tryz.ntmps25
    go_upto_region 18 with (at_builtin; refine wpList_run_app2 rfl (.tmp 89) (.tmp 91) 22 22 rfl rfl rfl hrun ?_)
    rw [← hW5]
    clear hW5 hrun c3 e3 g3
    rcases hf with ⟨x13, rfl⟩ | ⟨x13, rfl⟩
    · rcases hmore with hgt | hgt
      · have hg2 : (256 : Int) < (k : Int) := by omega
        cases sd with
        | false =>
          go_wp2_with (go_at_call 34; refine HB4.out.mono ?_; rintro z w8 ⟨rfl, hk⟩; have HK8 := Lib.hid hk; clear hk)
          go_end0
          refine ⟨rfl, Lib.hid (finb.out hgt _ ?_)⟩
          rw [hlg]; exact HK8.out
        | true =>
          go_wp2_with (go_at_call 34; refine HB1.out.mono ?_; rintro z w8 ⟨rfl, hk⟩; have HK8 := Lib.hid hk; clear hk)
          go_end0
          refine ⟨rfl, Lib.hid (finb.out hgt _ ?_)⟩
          rw [hlg]; exact HK8.out
      · have hg2 : ¬ (256 : Int) < (k : Int) := by omega
        go_wp2
        go_end0
        exact ⟨rfl, Lib.hid (fin.out hgt)⟩
    · rcases hmore with hgt | hgt
      · have hg2 : (256 : Int) < (n : Int) + 1 := by omega
        cases sd with
        | false =>
          go_wp2_with (go_at_call 34; refine HB4.out.mono ?_; rintro z w8 ⟨rfl, hk⟩; have HK8 := Lib.hid hk; clear hk)
          go_end0
          refine ⟨rfl, Lib.hid (finb.out hgt _ ?_)⟩
          rw [hlg]; exact HK8.out
        | true =>
          go_wp2_with (go_at_call 34; refine HB1.out.mono ?_; rintro z w8 ⟨rfl, hk⟩; have HK8 := Lib.hid hk; clear hk)
          go_end0
          refine ⟨rfl, Lib.hid (finb.out hgt _ ?_)⟩
          rw [hlg]; exact HK8.out
      · have hg2 : ¬ (256 : Int) < (n : Int) + 1 := by omega
        go_wp2
        go_end0
        exact ⟨rfl, Lib.hid (fin.out hgt)⟩
set_option maxRecDepth 10000 in
set_option maxHeartbeats 16000000 in
theorem onehead_0 {P Q : PrP} {g : Nat} {vl vb hv bv cv : Value} {FH FC : List Nat} {w : World} {L B : List UInt8} {h : HowP} {cm : Bool} (o : PrOk Q) (hQ : Q = { P with phase := 1, head := newH, line := [] }) (c : PxM g vl vb hv bv cv FH FC w 0 0 L B h cm) (hbv : ∃ x y z, bv = .slice x y z) (x : UInt8) :
    Calls Tryz.prog 25 #[ptr g, .int .u8 (x.toNat : Int)] w fun z w' => z = .returned (.tuple #[]) ∧ Hid (FedQ (pab g vl vb FH FC) w g (headR Q x) w') := by
  have O1 := Lib.hid o
  have H1 := Lib.hid (show Q.phase = 1 by rw [hQ])
  have HBV := Lib.hid hbv
  have b0 : w.cell? ⟨g, 0, none⟩ = some (.int .i64 0) := c.row.cell 0
  have q0 := c.row.free 0
  have k1 := PM.set (cs' := fun vl _ => pxCells 1 0 hv h bv cv cm vl) c 0 (.int .i64 1) rfl
  have g1 := PM.set_grew c 0 (.int .i64 1)
  obtain ⟨W1, hW1⟩ : ∃ W1, W1 = w.setCell ⟨g, 0, none⟩ (.int .i64 1) := ⟨_, rfl⟩
  rw [← hW1] at k1 g1
  have m2 : Mods [] W1 (W1.alloc (.cells (.slice none 0 0 :: refCells 0 0 newH).toArray 74)) := (Mods.refl [] W1).alloc _
  have a2 := hdR_new W1
  obtain ⟨hb, hhb⟩ : ∃ hb, hb = W1.heap.size := ⟨_, rfl⟩
  obtain ⟨W2, hW2⟩ : ∃ W2, W2 = W1.alloc (.cells (.slice none 0 0 :: refCells 0 0 newH).toArray 74) := ⟨_, rfl⟩
  rw [← hhb, ← hW2] at a2
  rw [← hW2] at m2
  obtain ⟨k2, g2⟩ := PM.born k1 m2 (FH' := [hb]) (fun k hk => by rw [List.mem_singleton] at hk; subst hk; exact ⟨by omega, a2.lt _ (by simp)⟩)
  have ra := fun o => k1.row.mods ((Mods.refl [] W1).alloc o) (by simp)
  have b2 : ∀ o, (W1.alloc o).cell? ⟨g, 2, none⟩ = some hv := fun o => (ra o).cell 2
  have q2 := fun o => (ra o).free 2
  have k3 := PM.set (cs' := fun vl _ => pxCells 1 0 (ptr hb) h bv cv cm vl) k2 2 (ptr hb) rfl
  have g3 := PM.set_grew k2 2 (ptr hb)
  have a3 : HdR [hb] (W2.setCell ⟨g, 2, none⟩ (ptr hb)) hb newH := a2.mods ((Mods.refl [g] W2).setCell (.inl (by simp)) _) (fun k hk => by simpa using (k2.hd k hk).2.1)
  obtain ⟨W3, hW3⟩ : ∃ W3, W3 = W2.setCell ⟨g, 2, none⟩ (ptr hb) := ⟨_, rfl⟩
  rw [← hW3] at k3 g3 a3
  have q3 := k3.row.free 3
  have b3 : W3.cell? ⟨g, 3, none⟩ = some vl := k3.row.cell 3
  have k4 := PM.putL (cs' := fun vl _ => pxCells 1 0 (ptr hb) h bv cv cm vl) k3 (BRow.nil W3) (Mods.refl _ W3) (fun k hk => by simp [Value.ownBlock] at hk) 3 rfl
  have a4 : HdR [hb] (W3.setCell ⟨g, 3, none⟩ (.slice none 0 0)) hb newH := a3.mods ((Mods.refl [g] W3).setCell (.inl (by simp)) _) (fun k hk => by simpa using (k3.hd k hk).2.1)
  obtain ⟨W, hW⟩ : ∃ W, W = W3.setCell ⟨g, 3, none⟩ (.slice none 0 0) := ⟨_, rfl⟩
  rw [← hW] at k4 a4
  have G1 := Lib.hid (((g1.trans g2).trans g3).trans k4.2)
  have K4 := Lib.hid k4.1
  clear ra k1 g1 m2 a2 k2 g2 k3 g3 a3 k4 c o hbv
  have A1 := Lib.hid (show HdR [hb] W hb Q.head by rw [hQ]; exact a4)
  clear a4
  obtain ⟨vl0, hvl0⟩ : ∃ v, v = vl := ⟨_, rfl⟩
  obtain ⟨FH0, hFH0⟩ : ∃ v, v = FH := ⟨_, rfl⟩
  rw [← hvl0, ← hFH0] at G1
  rw [← hvl0] at b3
  rw [← hvl0, ← hFH0]
  clear hvl0 hFH0 vl FH
  obtain ⟨vl, hvl⟩ : ∃ v, v = Value.slice none 0 0 := ⟨_, rfl⟩
  have K1 := Lib.hid (show PxM g vl vb (ptr hb) bv cv [hb] FC W 1 0 Q.line B h cm by rw [hQ, hvl]; exact K4.out)
  rw [← hvl] at G1
  clear hvl K4 hQ
  have c0 : W.cell? ⟨g, 0, none⟩ = some (.int .i64 1) := K1.out.row.cell 0
  unfold ptr
  rcases is14 x 10 10 rfl (by decide) with ⟨ex, hx, -⟩ | ⟨ex, hx, -⟩
  · have HQ := Lib.hid (show headR Q x = lendR Q by rw [ex]; exact headR_10 _)
    have OL := Lib.hid (show PrOk (lendR Q) by rw [← HQ.out]; exact O1.out.headR H1.out x)
    obtain ⟨hwh, hhs, hlen⟩ := O1.out.live H1.out
    have c3 : W.cell? ⟨g, 3, none⟩ = some vl := K1.out.row.cell 3
    have hat := K1.out.line.at
    have HBX := Lib.hid (bad_x K1.out 400)
    unfold ptr at HBX
    clear ex
    cases hcr : crE Q.line with
    | false =>
      have HE := Lib.hid (lend_bad hcr)
      rcases hat with ⟨hl0, A, cp, rfl⟩ | ⟨b, off, cp, rfl, hpos, hb4, hc1, hc2, hcell⟩
      · clear hcr hwh hhs hlen
        go_enter Tryz.func25, Tryz.ntmps25
        go_upto_region 4 with fail
        rw [← hW1]
        clear hW1 b0 q0
        go_upto_region 5 with fail
        change Code.wp _ _ _ _ ((W1.alloc (.cells (.slice none 0 0 :: refCells 0 0 newH).toArray 74)).setCell ⟨g, 2, none⟩ (ptr W1.heap.size))
        rw [← hW2, ← hhb, ← hW3]
        clear hW2 hW3 hhb q2 b2
        go_upto_region 6 with fail
        rw [← hW]
        clear hW q3 b3
        go_wp2_with (go_at_call 34; refine HBX.out.mono ?_; rintro z w5 ⟨rfl, hk⟩; have HK := Lib.hid hk; clear hk)
        refine bodyPost_ret (results_none rfl _ _ _) rfl ?_
        refine ⟨rfl, Lib.hid ?_⟩
        rw [HQ.out, HE.out]
        exact FedQ.trans G1.out (px_refused K1.out (by rw [← HE.out]; exact OL.out) HK.out HBV.out)
      · obtain ⟨n, hn⟩ : ∃ n, Q.line.length = n + 1 := ⟨Q.line.length - 1, by omega⟩
        have hnl : n < Q.line.length := by omega
        have hlast : Q.line[n] ≠ 13 := by
          intro e
          unfold crE at hcr
          refine of_decide_eq_false hcr ?_
          rw [List.getLast?_eq_getElem?, hn, Nat.add_sub_cancel, List.getElem?_eq_getElem hnl, e]
        have hce := hcell n hnl
        obtain ⟨y, hy⟩ : ∃ y, y = Q.line[n] := ⟨_, rfl⟩
        rw [← hy] at hce hlast
        rcases is14 y 13 13 rfl (by decide) with ⟨ex, -, -⟩ | ⟨-, -, hx2⟩
        · exact absurd ex hlast
        have hz : (((n : Int) + 1) == 0) = false := by rw [beq_eq_false_iff_ne]; omega
        have hn2 : n ≤ 300 := by omega
        rw [hn] at c3 hc1
        clear hwh hhs hcr hcell hn hnl hlast hy hpos hlen
        go_enter Tryz.func25, Tryz.ntmps25
        go_upto_region 4 with fail
        rw [← hW1]
        clear hW1 b0 q0
        go_upto_region 5 with fail
        change Code.wp _ _ _ _ ((W1.alloc (.cells (.slice none 0 0 :: refCells 0 0 newH).toArray 74)).setCell ⟨g, 2, none⟩ (ptr W1.heap.size))
        rw [← hW2, ← hhb, ← hW3]
        clear hW2 hW3 hhb q2 b2
        go_upto_region 6 with fail
        rw [← hW]
        clear hW q3 b3
        go_wp2_with (go_at_call 34; refine HBX.out.mono ?_; rintro z w5 ⟨rfl, hk⟩; have HK := Lib.hid hk; clear hk)
        refine bodyPost_ret (results_none rfl _ _ _) rfl ?_
        refine ⟨rfl, Lib.hid ?_⟩
        rw [HQ.out, HE.out]
        exact FedQ.trans G1.out (px_refused K1.out (by rw [← HE.out]; exact OL.out) HK.out HBV.out)
    | true =>
      obtain ⟨Mm, hM, -⟩ := cr_split15 hcr
      have HE := Lib.hid (lend_ok hM)
      have HW := Lib.hid (And.intro hwh hhs)
      rcases hat with ⟨hl0, A, cp, rfl⟩ | ⟨b, off, cp, rfl, hpos, hb4, hc1, hc2, hcell⟩
      · rw [hM] at hl0; simp at hl0
      have hn : Q.line.length = Mm.length + 1 := by rw [hM]; simp
      have hnl : Mm.length < Q.line.length := by omega
      have hlast : Q.line[Mm.length] = 13 := by simp [hM]
      have hce := hcell Mm.length hnl
      rw [hlast] at hce
      have hbm : BsAt W (.slice (some ⟨b, off, none⟩) Mm.length cp) Mm := by
        have := K1.out.line.at.to Mm.length (by omega)
        rw [hM] at this
        simpa using this
      have hconv := hbm.text
      have p1 := PM.putL (cs' := fun vl _ => pxCells 1 0 (ptr hb) h bv cv cm vl) K1.out (BRow.nil W) (Mods.refl _ W) (fun k hk => by simp [Value.ownBlock] at hk) 3 rfl
      have mb : Mods [g] W (W.setCell ⟨g, 3, none⟩ (.slice none 0 0)) := (Mods.refl [g] W).setCell (.inl (by simp)) _
      obtain ⟨Wb, hWb⟩ : ∃ Wb, Wb = W.setCell ⟨g, 3, none⟩ (.slice none 0 0) := ⟨_, rfl⟩
      rw [← hWb] at p1 mb
      have KB := Lib.hid p1.1
      have GB := Lib.hid (G1.out.trans p1.2)
      have a2 : Wb.cell? ⟨g, 2, none⟩ = some (ptr hb) := p1.1.row.cell 2
      have f3 := K1.out.row.free 3
      have AB := A1.out.mods mb (fun k hk => by simpa using (K1.out.hd k hk).2.1)
      have hn2 : Mm.length ≤ 256 := by omega
      have hz : (((Mm.length : Int) + 1) == 0) = false := by rw [beq_eq_false_iff_ne]; omega
      rw [hn] at c3 hc1
      have HLN := Lib.hid (line_x (ofL Mm) (by rw [ofL_size]; omega) AB)
      obtain ⟨s, hs⟩ : ∃ s, s = ofL Mm := ⟨_, rfl⟩
      rw [← hs] at HLN HE hconv
      obtain ⟨h', hh'⟩ : ∃ h', h' = lineP Q.head s := ⟨_, rfl⟩
      rw [← hh'] at HLN HE
      have HLW := Lib.hid (fun (q : h'.whole = true) => show HowOk h'.how by rw [hh'] at q ⊢; exact line_whole hwh hhs q)
      obtain ⟨bw, hbw⟩ : ∃ bw, bw = h'.whole := ⟨_, rfl⟩
      obtain ⟨st, hst⟩ : ∃ st, st = h'.status := ⟨_, rfl⟩
      have HBW := Lib.hid hbw
      have HST := Lib.hid hst
      rw [← hbw, ← hst] at HLN
      unfold ptr at HLN a2
      have hcase : (st != 0) = true ∨ ((st != 0) = false ∧ bw = true) ∨ ((st != 0) = false ∧ bw = false) := by
        cases bw <;> cases (st != 0) <;> simp
      clear hcr hwh hhs hcell hM hpos hb4 hn hnl hlast hbm p1 mb AB hlen hs hh' hbw hst HBX
      generalize Mm.length = ml at *
      go_enter Tryz.func25, Tryz.ntmps25
      go_upto_region 4 with fail
      rw [← hW1]
      clear hW1 b0 q0
      go_upto_region 5 with fail
      change Code.wp _ _ _ _ ((W1.alloc (.cells (.slice none 0 0 :: refCells 0 0 newH).toArray 74)).setCell ⟨g, 2, none⟩ (ptr W1.heap.size))
      rw [← hW2, ← hhb, ← hW3]
      clear hW2 hW3 hhb q2 b2
      go_upto_region 6 with fail
      rw [← hW]
      clear hW q3 b3
      go_upto_region 12 with fail
      rw [← hWb]
      clear hWb c3 hce f3
      go_upto_region 13 with (go_at_call 35; refine HLN.out.mono ?_; rintro z w3 ⟨rfl, hk⟩; have HK := Lib.hid hk.out; clear hk)
      obtain ⟨FH', a3, k3, g3⟩ := pxl_lined KB.out HK.out
      have A3 := Lib.hid a3
      have K3 := Lib.hid k3
      have G3 := Lib.hid (GB.out.trans g3)
      clear a3 k3 g3 a2
      rcases hcase with h0 | ⟨h0, rfl⟩ | ⟨h0, rfl⟩
      · have HRF := Lib.hid (bad_x K3.out st)
        unfold ptr at HRF
        go_wp2_with (go_at_call 34; refine HRF.out.mono ?_; rintro z w5 ⟨rfl, hk⟩; have HK5 := Lib.hid hk; clear hk)
        refine bodyPost_ret (results_none rfl _ _ _) rfl ?_
        refine ⟨rfl, Lib.hid ?_⟩
        have hE := HE.out
        rw [if_pos (show h'.status ≠ 0 by rw [← HST.out]; simpa using h0)] at hE
        rw [HQ.out, hE]
        exact FedQ.trans G3.out (px_refused K3.out (by rw [← hE]; exact OL.out) (by rw [← HST.out]; exact HK5.out) HBV.out)
      · have HEH := Lib.hid (begins_x O1.out H1.out K3.out HBV.out A3.out (HLW.out HBW.out.symm))
        unfold ptr at HEH
        go_wp2_with (go_at_call 36; refine HEH.out.mono ?_; rintro z w5 ⟨rfl, hk⟩; have HK5 := Lib.hid hk.out; clear hk)
        refine bodyPost_ret (results_none rfl _ _ _) rfl ?_
        refine ⟨rfl, Lib.hid ?_⟩
        have hE := HE.out
        rw [if_neg (show ¬ h'.status ≠ 0 by rw [← HST.out]; simpa using h0), if_pos HBW.out.symm] at hE
        rw [HQ.out, hE]
        exact FedQ.trans G3.out HK5.out
      · go_wp2
        refine bodyPost_ret (results_none rfl _ _ _) rfl ?_
        refine ⟨rfl, Lib.hid ?_⟩
        have hE := HE.out
        rw [if_neg (show ¬ h'.status ≠ 0 by rw [← HST.out]; simpa using h0), if_neg (show ¬ h'.whole = true by rw [← HBW.out]; simp)] at hE
        have o9 := OL.out
        rw [HQ.out]
        rw [hE] at o9 ⊢
        have h1 := H1.out
        exact FedQ.trans G3.out (FedQ.refl (px_mk o9 (ph := 1) (st := 0) (by show ((Q.phase : Nat) : Int) = 1; rw [h1]; rfl) (O1.out.st (by omega)) K3.out (.inr (.inl ⟨h1, rfl, hb, rfl, A3.out⟩)) HBV.out))
  · have HX := Lib.hid (headR_no Q (x := x) ex)
    have OX := Lib.hid (show PrOk (lgrowR Q x) by rw [← HX.out]; exact O1.out.headR H1.out x)
    obtain ⟨hwh, hhs, hlen⟩ := O1.out.live H1.out
    obtain ⟨A, cp, rfl, -, -⟩ := K1.out.line.form
    have c3 : W.cell? ⟨g, 3, none⟩ = some (.slice A Q.line.length cp) := K1.out.row.cell 3
    obtain ⟨b, c', w4, hrun, hrow, hm, hb4⟩ := app_row K1.out.line (by omega) x
    have hput := PM.putL (cs' := fun vl _ => pxCells 1 0 (ptr hb) h bv cv cm vl) K1.out hrow hm (fun k hk => by
      have hkb : k = b := by simpa [Value.ownBlock, eq_comm] using hk
      subst hkb
      rcases hb4 with h | h
      · exact .inl (by rw [← h]; simp)
      · exact .inr h) 3 rfl
    have r4 := K1.out.row.mods hm (fun hk => PM.ne_l K1.out g hk rfl)
    have e3 : w4.cell? ⟨g, 3, none⟩ = some (.slice A Q.line.length cp) := r4.cell 3
    have g3 := r4.free 3
    have m5 : Mods (g :: (Value.ownBlock (.slice A Q.line.length cp)).toList) W (w4.setCell ⟨g, 3, none⟩ (.slice (some ⟨b, 0, none⟩) (Q.line.length + 1) c')) := (hm.more (fun k hk => .inl (by simp [hk]))).setCell (.inl (by simp)) _
    have a5 := A1.out.mods m5 (fun k hk h => by
      have h9 := K1.out.hd k hk
      rcases List.mem_cons.1 h with h | h
      · exact h9.2.1 h
      · exact h9.2.2.1 h)
    obtain ⟨W5, hW5⟩ : ∃ W5, W5 = w4.setCell ⟨g, 3, none⟩ (.slice (some ⟨b, 0, none⟩) (Q.line.length + 1) c') := ⟨_, rfl⟩
    rw [← hW5] at hput a5
    have K5 := Lib.hid hput.1
    have G5 := Lib.hid (G1.out.trans hput.2)
    have A5 := Lib.hid a5
    have e5 : W5.cell? ⟨g, 3, none⟩ = some (.slice (some ⟨b, 0, none⟩) (Q.line.length + 1) c') := K5.out.row.cell 3
    have e2 : W5.cell? ⟨g, 2, none⟩ = some (ptr hb) := K5.out.row.cell 2
    obtain ⟨hv9, hz9, he9, hx9, -, -⟩ := a5.ex
    have e11 : W5.cell? ⟨hb, 11, none⟩ = some (.bool Q.head.started) := hx9.facts.2.2.2.2.2.2.2.2.2.2.2.1
    have HLG := Lib.hid (fun (h : 256 < cntL Q.line x) => lgrow_bad (P := Q) (x := x) h)
    have HLO := Lib.hid (fun (h : ¬ 256 < cntL Q.line x) => lgrow_ok (P := Q) (x := x) h)
    have HB1 := Lib.hid (bad_x K5.out 431)
    have HB4 := Lib.hid (bad_x K5.out 414)
    have hlg : longS Q.head = if Q.head.started = true then 431 else 414 := rfl
    have hcnt : cntL Q.line x = if x = 13 then Q.line.length else Q.line.length + 1 := rfl
    obtain ⟨ls, hls⟩ : ∃ ls, ls = longS Q.head := ⟨_, rfl⟩
    obtain ⟨sd, hsd⟩ : ∃ sd, sd = Q.head.started := ⟨_, rfl⟩
    rw [← hls] at HLG hlg
    rw [← hsd] at e11 hlg
    obtain ⟨k, hk⟩ : ∃ k, k = cntL Q.line x := ⟨_, rfl⟩
    rw [← hk] at hcnt HLG HLO
    obtain ⟨n, hn⟩ : ∃ n, n = Q.line.length := ⟨_, rfl⟩
    rw [← hn] at c3 hrun e3 hW5 e5 hlen hcnt
    unfold ptr at e2 HB1 HB4
    have hcase : (x = 13 ∧ k = n) ∨ (x ≠ 13 ∧ k = n + 1) := by
      by_cases h : x = 13
      · rw [if_pos h] at hcnt; exact .inl ⟨h, hcnt⟩
      · rw [if_neg h] at hcnt; exact .inr ⟨h, hcnt⟩
    have hf : ((x.toNat : Int) == 13) = true ∧ k = n ∨ ((x.toNat : Int) == 13) = false ∧ k = n + 1 := by
      rcases hcase with ⟨h13, e⟩ | ⟨h13, e⟩
      · exact .inl ⟨by rw [h13]; rfl, e⟩
      · rcases is14 x 13 13 rfl (by decide) with ⟨ex, -, -⟩ | ⟨-, hx, -⟩
        · exact absurd ex h13
        · exact .inr ⟨hx, e⟩
    clear hput r4 m5 a5 hx9 hrow hm hb4 hwh hhs hn hk hls hsd ex hcnt hcase
    have fin := Lib.hid (fun (hq : ¬ 256 < k) => show FedQ (pab g vl0 vb FH0 FC) w g (headR Q x) W5 from by
      have hE := HX.out.trans (HLO.out hq)
      have o9 := OX.out
      rw [HLO.out hq] at o9
      rw [hE]
      have h1 : Q.phase = 1 := H1.out
      exact FedQ.trans G5.out (FedQ.refl (px_mk o9 (ph := 1) (st := 0) (by show ((Q.phase : Nat) : Int) = 1; rw [h1]; rfl) (O1.out.st (by omega)) K5.out (.inr (.inl ⟨h1, rfl, hb, rfl, A5.out⟩)) HBV.out)))
    have finb := Lib.hid (fun (hq : 256 < k) (w' : World) (hw : w' = (W5.setCell ⟨g, 0, none⟩ (.int .i64 4)).setCell ⟨g, 1, none⟩ (.int .i64 ls)) => show FedQ (pab g vl0 vb FH0 FC) w g (headR Q x) w' from by
      have hE := HX.out.trans (HLG.out hq)
      have o9 := OX.out
      rw [HLG.out hq] at o9
      rw [hE]
      exact FedQ.trans G5.out (px_refused K5.out o9 hw HBV.out))
    have hmore : 256 < k ∨ ¬ 256 < k := by omega
    go_enter Tryz.func25, Tryz.ntmps25
    go_upto_region 4 with fail
    rw [← hW1]
    clear hW1 b0 q0
    go_upto_region 5 with fail
    change Code.wp _ _ _ _ ((W1.alloc (.cells (.slice none 0 0 :: refCells 0 0 newH).toArray 74)).setCell ⟨g, 2, none⟩ (ptr W1.heap.size))
    rw [← hW2, ← hhb, ← hW3]
    clear hW2 hW3 hhb q2 b2
    go_upto_region 6 with fail
    rw [← hW]
    clear hW q3 b3
    go_upto_region 18 with (at_builtin; refine wpList_run_app2 rfl (.tmp 89) (.tmp 91) 22 22 rfl rfl rfl hrun ?_)
    rw [← hW5]
    clear hW5 hrun c3 e3 g3
    rcases hf with ⟨x13, rfl⟩ | ⟨x13, rfl⟩
    · rcases hmore with hgt | hgt
      · have hg2 : (256 : Int) < (k : Int) := by omega
        cases sd with
        | false =>
          go_wp2_with (go_at_call 34; refine HB4.out.mono ?_; rintro z w8 ⟨rfl, hk⟩; have HK8 := Lib.hid hk; clear hk)
          go_end0
          refine ⟨rfl, Lib.hid (finb.out hgt _ ?_)⟩
          rw [hlg]; exact HK8.out
        | true =>
          go_wp2_with (go_at_call 34; refine HB1.out.mono ?_; rintro z w8 ⟨rfl, hk⟩; have HK8 := Lib.hid hk; clear hk)
          go_end0
          refine ⟨rfl, Lib.hid (finb.out hgt _ ?_)⟩
          rw [hlg]; exact HK8.out
      · have hg2 : ¬ (256 : Int) < (k : Int) := by omega
        go_wp2
        go_end0
        exact ⟨rfl, Lib.hid (fin.out hgt)⟩
    · rcases hmore with hgt | hgt
      · have hg2 : (256 : Int) < (n : Int) + 1 := by omega
        cases sd with
        | false =>
          go_wp2_with (go_at_call 34; refine HB4.out.mono ?_; rintro z w8 ⟨rfl, hk⟩; have HK8 := Lib.hid hk; clear hk)
          go_end0
          refine ⟨rfl, Lib.hid (finb.out hgt _ ?_)⟩
          rw [hlg]; exact HK8.out
        | true =>
          go_wp2_with (go_at_call 34; refine HB1.out.mono ?_; rintro z w8 ⟨rfl, hk⟩; have HK8 := Lib.hid hk; clear hk)
          go_end0
          refine ⟨rfl, Lib.hid (finb.out hgt _ ?_)⟩
          rw [hlg]; exact HK8.out
      · have hg2 : ¬ (256 : Int) < (n : Int) + 1 := by omega
        go_wp2
        go_end0
        exact ⟨rfl, Lib.hid (fin.out hgt)⟩
end Go.Proofs.YtgkhelbpccehcaaGreatDoor

/- The document's parser: a byte, rows of bytes, Waits. Conditions: rows of at most a million bytes in all. -/
namespace Go.Proofs.YtgkhelbpccehcaaGreatDoor
open Go.RowKit
set_option linter.unusedVariables false
set_option linter.unusedSimpArgs false

theorem oneR_2 {P : PrP} (h : P.phase = 2) (x : UInt8) : oneR P x = moreR P x := by unfold oneR; rw [if_pos h]
set_option maxRecDepth 10000 in
set_option maxHeartbeats 2000000 in
theorem one_xp {F : List Nat} {w : World} {g : Nat} {P : PrP} (a : PaR F w g P) (hd : doneR P = false) (x : UInt8) :
    Calls Tryz.prog 25 #[ptr g, .int .u8 (x.toNat : Int)] w fun z w' => z = .returned (.tuple #[]) ∧ Hid (FedQ F w g (oneR P x) w') := by
  obtain ⟨vl, vb, hv, bv, cv, FH, FC, L, B, h, cm, c, rfl, r, hbv⟩ := a.ex
  have o := a.ok
  have hph := doneR_no hd
  have hst := o.st (by omega)
  rw [hst] at c
  rcases r with p0 | ⟨p1, rfl, hb, rfl, ha⟩ | ⟨p2, hk, rfl, rfl, rfl, rfl, hb, rfl, ha⟩ | ⟨p2, hk, rfl, rfl, ⟨cb, rfl, hc⟩, hb, rfl, ha⟩ | ⟨p3, -⟩ | p4
  · rw [oneR_0 p0]
    exact onehead_0 (o.first p0) rfl (by rw [p0] at c; exact c) hbv x
  · rw [oneR_1 p1]
    exact onehead_1 o p1 (by rw [p1] at c; exact c) ha hbv x
  · rw [oneR_2 p2]
    rw [p2] at c
    have HT := Lib.hid (more_x1 o p2 hk c ha x)
    have c0 : w.cell? ⟨g, 0, none⟩ = some (.int .i64 2) := c.row.cell 0
    unfold ptr at HT ⊢
    clear a c o hph hst hd p2 hk ha hbv
    go_enter Tryz.func25, Tryz.ntmps25
    go_wp2_with (go_at_call 33; refine HT.out.mono ?_; rintro z w5 ⟨rfl, hk⟩; have HK := Lib.hid hk.out; clear hk)
    refine bodyPost_ret (results_none rfl _ _ _) rfl ?_
    exact ⟨rfl, HK⟩
  · rw [oneR_2 p2]
    rw [p2] at c
    have HT := Lib.hid (more_x2 o p2 hk c hbv ha hc x)
    have c0 : w.cell? ⟨g, 0, none⟩ = some (.int .i64 2) := c.row.cell 0
    unfold ptr at HT ⊢
    clear a c o hph hst hd p2 hk ha hbv hc
    go_enter Tryz.func25, Tryz.ntmps25
    go_wp2_with (go_at_call 33; refine HT.out.mono ?_; rintro z w5 ⟨rfl, hk⟩; have HK := Lib.hid hk.out; clear hk)
    refine bodyPost_ret (results_none rfl _ _ _) rfl ?_
    exact ⟨rfl, HK⟩
  · omega
  · omega
/-- The first bytes of a row, behind other ones. -/
theorem FedR.next {P R : PrP} {pre row : List UInt8} {k M : Nat} (hk : k < row.length) (h : feedR P (pre ++ row.take k) = (R, M)) (hd : doneR R = false) : feedR P (pre ++ row.take (k + 1)) = (oneR R row[k], M + 1) := by
  rw [List.take_succ_eq_append_getElem hk, ← List.append_assoc, feedR_app, h]
  show ((feedR R [row[k]]).1, M + (feedR R [row[k]]).2) = _
  rw [feedR_cons hd, feedR_nil]
theorem FedR.stop {P R : PrP} {ps : List (List UInt8)} {j k M : Nat} (hj : j < ps.length) (h : feedR P ((ps.take j).flatten ++ ps[j].take k) = (R, M)) (hd : doneR R = true) : feedR P ps.flatten = (R, M) := by
  have e : ps.flatten = ((ps.take j).flatten ++ ps[j].take k) ++ (ps[j].drop k ++ (ps.drop (j + 1)).flatten) := by
    have h1 : ps.flatten = (ps.take (j + 1)).flatten ++ (ps.drop (j + 1)).flatten := by rw [← List.flatten_append, List.take_append_drop]
    rw [h1, flatR_at ps j hj, List.append_assoc, List.append_assoc, ← List.append_assoc (ps[j].take k), List.take_append_drop]
  rw [e, feedR_app, h]
  show ((feedR R _).1, M + (feedR R _).2) = _
  rw [feedR_done hd]; rfl
set_option maxRecDepth 10000 in
set_option maxHeartbeats 4000000 in
theorem feedr_x {F : List Nat} {w : World} {g : Nat} {P : PrP} (v : Value) (ps : List (List UInt8)) (hp : PsAp w v ps F) (a : PaR F w g P) (hl : ps.flatten.length ≤ 1000000) (hn : ps.length ≤ 1000000) :
    Calls Tryz.prog 12 #[ptr g, v] w fun z w' => z = .returned (.int .i64 ((feedR P ps.flatten).2 : Nat)) ∧ Hid (FedQ F w g (feedR P ps.flatten).1 w') := by
  have HP := Lib.hid hp
  have HA := Lib.hid (FedQ.refl a)
  obtain ⟨A, c, rfl⟩ := hp.len
  clear hp a
  unfold ptr
  go_enter Tryz.func12, Tryz.ntmps12
  go_wp2
  go_loopw [5, 6] (fun n i wr => ∃ (j m : Nat) (Q : PrP), j ≤ ps.length ∧ m ≤ (ps.take j).flatten.length ∧ i = .int .i64 j ∧ n = .int .i64 m ∧ Hid (feedR P (ps.take j).flatten = (Q, m)) ∧ Hid (FedQ F w g Q wr)) (fun _ i _ => ps.length - (intOf i).toNat)
  case atStart => exact ⟨0, 0, P, Nat.zero_le _, Nat.zero_le _, rfl, rfl, Lib.hid (by rw [List.take_zero]; rfl), HA⟩
  case round =>
    obtain ⟨j, m, Q, hj, hmj, rfl, rfl, HFD, HC⟩ := hrel
    clear HA
    by_cases hlt : j < ps.length
    · obtain ⟨wo, rfl⟩ : ∃ wo : World, wo = wr := ⟨_, rfl⟩
      have hfl := flatR_len ps j hlt
      have HFL := Lib.hid (flatR_at ps j hlt)
      have hgr : ∀ F1 wx, Grew F F1 w wx → ∃ (b off : Nat) (u : Value), A = some ⟨b, off, none⟩ ∧ wx.cell? ⟨b, off + j, none⟩ = some u ∧ BsAt wx u ps[j] := fun F1 wx hg => by
        obtain ⟨b, off, cap, u, hv, h1, h2, -⟩ := (HP.out.next hg).row hlt
        injection hv with e1 e2 e3
        exact ⟨b, off, u, e1, h1, h2⟩
      have HGR := Lib.hid hgr
      have HMJ := Lib.hid hmj
      clear hgr
      obtain ⟨b, off, rfl⟩ : ∃ b off, A = some ⟨b, off, none⟩ := by
        obtain ⟨F1, -, hg⟩ := HC.out
        obtain ⟨b, off, u, e, -⟩ := HGR.out F1 wo hg
        exact ⟨b, off, e⟩
      have hmb : m + ps[j].length ≤ 1000000 := by omega
      go_wp2
      go_loopw [5, 7] (fun n kv wx => ∃ (k M : Nat) (R : PrP), k ≤ ps[j].length ∧ M ≤ m + k ∧ kv = .int .i64 k ∧ n = .int .i64 M ∧ Hid (feedR P ((ps.take j).flatten ++ ps[j].take k) = (R, M)) ∧ Hid (FedQ F w g R wx)) (fun _ kv _ => ps[j].length - (intOf kv).toNat)
      case atStart => exact ⟨0, m, Q, Nat.zero_le _, Nat.le_refl _, rfl, rfl, Lib.hid (by rw [List.take_zero, List.append_nil]; exact HFD.out), HC⟩
      case round =>
        obtain ⟨k, M, R, hk, hMk, rfl, rfl, HFR, HCR⟩ := hrel
        clear HC
        obtain ⟨F1, a1, hg1⟩ := HCR.out
        obtain ⟨b', off', u, hv, hcell, hbs⟩ := HGR.out F1 _ hg1
        injection hv with hv
        injection hv with e1 e2
        subst e1 e2
        have hst := HFR.out
        by_cases hkl : k < ps[j].length
        · obtain ⟨ub, uo, uc, rfl, hbyte⟩ : ∃ ub uo uc, u = .slice (some ⟨ub, uo, none⟩) ps[j].length uc ∧ wr.cell? ⟨ub, uo + k, none⟩ = some (.int .u8 (ps[j][k].toNat : Int)) := by
            rcases hbs with ⟨e, _⟩ | ⟨b, off, cap, hv, _, _, _, _, hc⟩
            · rw [e] at hkl; simp at hkl
            · exact ⟨b, off, cap, hv, hc k hkl⟩
          obtain ⟨vl, vb, hv, bv, cv, FH, FC, L, B, h, cm, cc, hF1, hz, hz2⟩ := a1.ex
          have d0 : wr.cell? ⟨g, 0, none⟩ = some (.int .i64 (R.phase : Nat)) := cc.row.cell 0
          clear cc hz hz2 hF1 vl vb hv bv cv FH FC L B h cm hbs
          by_cases hdn : doneR R = true
          · have hph : ¬ (R.phase : Int) < 3 := by unfold doneR at hdn; have := of_decide_eq_true hdn; omega
            have HE := Lib.hid (FedR.stop hlt HFR.out hdn)
            clear a1 hg1 hst hdn
            generalize R.phase = ph at *
            go_wp2
            go_ret
            exact ⟨by rw [HE.out]; rfl, Lib.hid (by rw [HE.out]; exact HCR.out)⟩
          · have hd : doneR R = false := by simpa using hdn
            have hph : (R.phase : Int) < 3 := by have := doneR_no hd; omega
            have HT := Lib.hid (one_xp a1 hd ps[j][k])
            have HN := Lib.hid (FedR.next hkl HFR.out hd)
            have HG1 := Lib.hid hg1
            clear a1 hg1 hst hdn hd
            obtain ⟨x, hx⟩ : ∃ x, x = ps[j][k] := ⟨_, rfl⟩
            rw [← hx] at HT HN hbyte
            clear hx
            obtain ⟨R2, hR2⟩ : ∃ R2, R2 = oneR R x := ⟨_, rfl⟩
            rw [← hR2] at HT HN
            clear hR2
            generalize R.phase = ph at *
            unfold ptr at HT
            go_wp2_with (go_at_call 25; refine HT.out.mono ?_; rintro z w2 ⟨rfl, hk2⟩; have HK := Lib.hid (FedQ.trans HG1.out hk2.out); clear hk2)
            go_roundw
            case rel => exact ⟨k + 1, M + 1, R2, by omega, by omega, by go_num, by go_num, HN, HK⟩
            case measure => simp [intOf]; omega
        · obtain rfl : k = ps[j].length := by omega
          obtain ⟨ua, uc, rfl⟩ := hbs.len
          have HN := Lib.hid (show feedR P (ps.take (j + 1)).flatten = (R, M) by
            rw [HFL.out]
            have := HFR.out
            rw [List.take_length] at this
            exact this)
          have HBD := Lib.hid (show M ≤ (ps.take (j + 1)).flatten.length by
            have := feedR_le (ps.take (j + 1)).flatten P
            rw [HN.out] at this
            exact this)
          clear a1 hg1 hst hbs
          go_wp2
          go_roundw
          case rel => exact ⟨j + 1, M, R, by omega, HBD.out, by go_num, by go_num, HN, HCR⟩
          case measure => simp [intOf]; omega
    · obtain rfl : j = ps.length := by omega
      have HE := Lib.hid (show feedR P ps.flatten = (Q, m) by have := HFD.out; rw [List.take_length] at this; exact this)
      go_wp2
      go_ret
      exact ⟨by rw [HE.out]; rfl, Lib.hid (by rw [HE.out]; exact HC.out)⟩
set_option maxRecDepth 10000 in
set_option maxHeartbeats 1000000 in
theorem waits_x {F : List Nat} {w : World} {g : Nat} {P : PrP} (a : PaR F w g P) : Calls Tryz.prog 26 #[ptr g] w fun z w' => z = .returned (.bool (waitsR P)) ∧ Mods [] w w' := by
  obtain ⟨vl, vb, hv, bv, cv, FH, FC, L, B, h, cm, c, -, r, -⟩ := a.ex
  have d0 : w.cell? ⟨g, 0, none⟩ = some (.int .i64 (P.phase : Nat)) := c.row.cell 0
  have d7 : w.cell? ⟨g, 7, none⟩ = some (.bool h.expect) := c.row.cell 7
  have d10 : w.cell? ⟨g, 10, none⟩ = some (.bool cm) := c.row.cell 10
  unfold ptr
  by_cases h2 : P.phase = 2
  · have hh : cm = P.came ∧ h = P.how := by
      rcases r with p | ⟨p, -⟩ | ⟨-, -, -, -, e, q, -⟩ | ⟨-, -, e, q, -⟩ | ⟨p, -⟩ | p
      · omega
      · omega
      · exact ⟨e, q⟩
      · exact ⟨e, q⟩
      · omega
      · omega
    obtain ⟨rfl, rfl⟩ := hh
    have HW := Lib.hid (waits_2 h2)
    rw [h2] at d0
    clear a c r h2
    obtain ⟨cm, hcm⟩ : ∃ cm, cm = P.came := ⟨_, rfl⟩
    obtain ⟨xp, hxp⟩ : ∃ xp, xp = P.how.expect := ⟨_, rfl⟩
    rw [← hcm] at d10 HW
    rw [← hxp] at d7 HW
    clear hcm hxp
    cases cm
    all_goals
      cases xp
      all_goals
        go_enter Tryz.func26, Tryz.ntmps26
        go_wp2
        go_ret
        exact ⟨by rw [HW.out]; rfl, Mods.refl _ _⟩
  · have HW := Lib.hid (waits_no h2)
    have hne : ((P.phase : Int) == 2) = false := by rw [beq_eq_false_iff_ne]; omega
    clear a c r h2
    generalize P.phase = ph at *
    go_enter Tryz.func26, Tryz.ntmps26
    go_wp2
    go_ret
    exact ⟨by rw [HW.out]; rfl, Mods.refl _ _⟩
end Go.Proofs.YtgkhelbpccehcaaGreatDoor

/- Both parsers side by side: where they are. Conditions: none. -/
namespace Go.Proofs.YtgkhelbpccehcaaGreatDoor
open Go.RowKit
set_option linter.unusedVariables false
set_option linter.unusedSimpArgs false

set_option maxRecDepth 10000 in
set_option maxHeartbeats 4000000 in
theorem stood_l {F G : List Nat} {W : World} {g xg : Nat} {P : PrP} (c : PaA F W g P) (x : PaR G W xg P) :
    Calls Tryz.prog 13 #[ptr g, ptr xg] W fun z w' => z = .returned (.bool true) ∧ Mods [] W w' := by
  obtain ⟨vl, vb, hv, bv, cv, FH, FC, L, B, h, cm, cc, -, -, -⟩ := x.ex
  have d0 : W.cell? ⟨xg, 0, none⟩ = some (.int .i64 (P.phase : Nat)) := cc.row.cell 0
  have d1 : W.cell? ⟨xg, 1, none⟩ = some (.int .i64 P.status) := cc.row.cell 1
  have HP := Lib.hid (fun W' (hm : Mods [] W W') => phase_p (c.low hm))
  have HS := Lib.hid (fun W' (hm : Mods [] W W') => status_p (c.low hm))
  have HW := Lib.hid (fun W' (hm : Mods [] W W') => waits_p (c.low hm))
  have HX := Lib.hid (fun W' (hm : Mods [] W W') => waits_x (x.low hm))
  unfold ptr at *
  obtain ⟨ph, hph⟩ : ∃ ph : Int, ph = (P.phase : Nat) := ⟨_, rfl⟩
  obtain ⟨st, hst⟩ : ∃ st, st = P.status := ⟨_, rfl⟩
  obtain ⟨wt, hwt⟩ : ∃ wt, wt = waitsR P := ⟨_, rfl⟩
  rw [← hph] at HP d0
  rw [← hst] at HS d1
  rw [← hwt] at HW HX
  have e2 : (ph == ph) = true := by simp
  have e3 : (st == st) = true := by simp
  have e4 : (wt == wt) = true := by simp
  clear cc c x hph hst hwt
  go_enter Tryz.func13, Tryz.ntmps13
  go_upto_region 1 with fail
  go_region_held3 (fun w' => w'.cell? ⟨xg, 0, none⟩ = some (.int .i64 ph) ∧ w'.cell? ⟨xg, 1, none⟩ = some (.int .i64 st)) (go_keep) (first
    | (go_at_call 19; refine (HP.out _ ((Mods.refl [] W).drew)).mono ?_; rintro e w1 ⟨rfl, rfl⟩)
    | (go_at_call 20; refine (HS.out _ ((Mods.refl [] W).drew)).mono ?_; rintro e w1 ⟨rfl, rfl⟩)
    | (go_at_call 21; refine (HW.out _ ((Mods.refl [] W).drew)).mono ?_; rintro e w6 ⟨rfl, hm⟩; have M6 := Lib.hid (((Mods.refl [] W).drew).trans hm (fun _ h => nomatch h)); have d0b := cell_mods d0 M6.out (by simp); have d1b := cell_mods d1 M6.out (by simp); clear hm)
    | (go_at_call 26; refine (HX.out _ M6.out).mono ?_; rintro e w7 ⟨rfl, hm⟩; have M7 := Lib.hid (M6.out.trans hm (fun _ h => nomatch h)); have d0c := cell_mods d0 M7.out (by simp); have d1c := cell_mods d1 M7.out (by simp); clear hm))
  go_wp2
  go_ret
  exact ⟨by rfl, M7.out⟩
end Go.Proofs.YtgkhelbpccehcaaGreatDoor
