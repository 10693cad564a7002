/- For every list of fields and every script, the code's Fields answers as the document's at each act, and holds the same fields: the law returns true. Condition: the library's tables are laid as its initialisers lay them. -/
import Derived.Test.YtakimadhbgpedaaDoorCards
import Derived.Test.YtakimadhbgpedaaDoorTie
import Derived.Lay
import Derived.LaidOnce
import Derived.MakeChecks
import Derived.SevenTiedAt
import Derived.WalkKit
import Derived.ProofKit
import Derived.OpenShut
import Derived.ShutString
import Derived.ChangeOld
import Derived.Below
import Derived.SizedLaws
import Derived.Test.YtakimadhbgpedaaDoorFr10
import Derived.Carry
import Derived.Deep.DeepCutAuto
import Derived.Deep.CutBlock
namespace Go.Proofs.YtakimadhbgpedaaDoor.fieldPlays
open Go.ChangeShapes Go.WideShapes Go.ChangeAt Go.RowKit
open Go.ChangeMaps (open_string shut_string)
set_option linter.unusedVariables false
set_option linter.unusedSimpArgs false
set_option maxRecDepth 10000 in
set_option maxHeartbeats 8000000 in
theorem walk (W : World) (r : FRow) (hr : r.Ok W) (va : Value) (al : List Act10) (hal : ActsAt W va al) : Calls Tryd.prog 4 #[r.v, va] W fun e W' => e = .returned (.bool true) ∧ Below W.heap.size W W' := by
  have HH1 := Lib.hid (heavy_l va al W hal)
  have HH := Lib.hid (fun w h => heavy_one w r ⟨#[]⟩ h (by decide))
  have HAL := Lib.hid hal
  obtain ⟨A, C, l⟩ := r
  have HR := Lib.hid hr
  simp only [FRow.v] at HH ⊢
  obtain ⟨aA, aC, rfl, halen, hac⟩ := hal
  have HAC := Lib.hid hac
  clear hr hac
  unfold HvAns at HH1
  go_enter Tryd.func4, Tryd.ntmps4
  go_wp2_with fail
  refine HH1.out.mono ?_
  rintro e w1 ⟨b1, rfl, hli, hm1⟩
  have M1 := Lib.hid hm1
  cases b1 with
  | true =>
    clear hli hm1
    go_wp2
    go_ret
    exact ⟨rfl, M1.out.below⟩
  | false =>
    have HLI := Lib.hid (hli rfl)
    have HR1 := Lib.hid (show (⟨A, C, l⟩ : FRow).Ok w1 from ⟨HR.out.fs.low hm1, HR.out.big, HR.out.len, HR.out.cap, HR.out.capm⟩)
    clear hli hm1
    go_wp2_with fail
    refine (HH.out _ HR1.out).mono ?_
    rintro e w2 ⟨hcase, hm2⟩
    have M2 := Lib.hid (M1.out.trans hm2 (fun _ h => nomatch h))
    clear hm2
    rcases hcase with rfl | ⟨rfl, -, hlight⟩
    · go_wp2
      go_ret
      exact ⟨rfl, M2.out.below⟩
    · have HL5 := Lib.hid hlight
      have HF2 := Lib.hid (HR.out.fs.low M2.out)
      obtain ⟨A3, C3, w3, hrun, hfs3, hm3, hnew3⟩ := copy_fs w2 A C l HF2.out hlight.1
      have HF3 := Lib.hid hfs3
      have M3 := Lib.hid (M2.out.trans hm3 (fun _ h => nomatch h))
      have HFL := Lib.hid (HR.out.fs.low M3.out)
      clear hlight hfs3 hm3 hnew3 HR1 HH HH1 HF2
      go_wp2_with (at_builtin; refine wpList_run_app rfl (.tmp 25) (.tmp 26) 31 rfl rfl rfl hrun ?_)
      clear hrun
      refine (of_a _ l _ HF3.out (by have := HL5.out.1; omega) HL5.out.small).mono ?_
      rintro e w4 ⟨g1, v1, rfl, hA⟩
      have HA := Lib.hid hA
      clear hA
      have HX0 := Lib.hid (show Made 40 w4 w4.heap.size (.slice none 0 0) [] (w4.alloc (.cells #[.slice none 0 0] 40)) from ⟨fld_new _ w4, (Mods.refl [] w4).alloc _, Nat.le_refl _, fun k hk => by simp [Value.ownBlock] at hk⟩)
      have HT0 := Lib.hid (Two.make HA.out M3.out HX0.out)
      obtain ⟨g2, hg2⟩ : ∃ g2, g2 = w4.heap.size := ⟨_, rfl⟩
      rw [← hg2] at HT0
      have HFX := Lib.hid ((HFL.out.low HA.out.mods).low HX0.out.mods)
      have HRA := Lib.hid (radd _ l _ HT0.out.x HFX.out (by have := HL5.out.1; omega) HL5.out.small (fun h0 k hk => by
        have h1 := HR.out.fs.lt h0 k hk
        refine ⟨fun e => ?_, fun hk2 => ?_⟩
        · have := HT0.out.b2 g2 (by simp); omega
        · have := HT0.out.b2 k (List.mem_cons_of_mem _ hk2); omega))
      unfold ptr at *
      go_wp2_with fail
      rw [← hg2]
      refine HRA.out.mono ?_
      rintro e w5 ⟨u2, rfl, ha⟩
      have HS0 := Lib.hid (show St10 W w5 g1 g2 from ⟨_, _, _, HT0.out.xa ha⟩)
      clear ha hg2 HRA HT0 HX0 HFX HA HFL HF3
      go_wp2
      go_loopw [7] (fun i wr => ∃ k : Nat, k ≤ al.length ∧ k ≤ 80 ∧ i = .int .i64 k ∧ Hid (St10 W wr g1 g2)) (fun i _ => al.length - (intOf i).toNat)
      case atStart => exact ⟨0, Nat.zero_le _, Nat.zero_le _, rfl, HS0⟩
      case round =>
        obtain ⟨k, hk, hk80, rfl, hst⟩ := hrel
        obtain ⟨v1, v2, S, hT⟩ := hst.out
        have HT := Lib.hid hT
        clear hT hst HS0
        by_cases hlt : k < al.length
        · by_cases h80 : k < 80
          · obtain ⟨b, off, rfl, hb, h1, h2, h3, h4, h5, h6, h7, h8, h9⟩ := HAC.out k hlt
            obtain ⟨hla, hlb, hlc⟩ := HLI.out k hlt h80
            have c0 := cell_mods h1 HT.out.low (by simp)
            have c1 := cell_mods h2 HT.out.low (by simp)
            have c2 := cell_mods h3 HT.out.low (by simp)
            have c3 := cell_mods h4 HT.out.low (by simp)
            have HOK9 := Lib.hid h9
            have HLC := Lib.hid hlc
            obtain ⟨kd, hkd⟩ : ∃ x, x = al[k].kind := ⟨_, rfl⟩
            obtain ⟨nm, hnm⟩ : ∃ x, x = al[k].name := ⟨_, rfl⟩
            obtain ⟨ot, hot⟩ : ∃ x, x = al[k].other := ⟨_, rfl⟩
            obtain ⟨fr, hfr⟩ : ∃ x, x = al[k].row := ⟨_, rfl⟩
            rw [← hkd] at c0
            rw [← hnm] at c1 hla
            rw [← hot] at c2 hlb
            rw [← hfr] at c3 HOK9 HLC
            obtain ⟨rA, rC, rl⟩ := fr
            simp only [FRow.v] at c3
            clear hkd hnm hot hfr h1 h2 h3 h4 h5 h6 h7 h8 h9 hlc
            have hz : wr.heap.size < (wr.alloc (.cells #[.int .i64 kd, .string nm, .string ot, .slice rA rl.length rC] 35)).heap.size := by simp
            go_upto_block 2 with fail
            obtain ⟨bx, hbx⟩ : ∃ bx, bx = wr.heap.size := ⟨_, rfl⟩
            have hR := Row.new wr 35 #[.int .i64 kd, .string nm, .string ot, .slice rA rl.length rC]
            have hT2 := HT.out.quiet ((Mods.refl [] wr).alloc (.cells #[.int .i64 kd, .string nm, .string ot, .slice rA rl.length rC] 35))
            have hbw : W.heap.size ≤ bx := by rw [hbx]; exact HT.out.low.size
            have hnb : (∀ k ∈ bl g1 v1, k ≠ bx) ∧ ∀ k ∈ bl g2 v2, k ≠ bx := ⟨fun k hk => by have := HT.out.p.blt k hk; omega, fun k hk => by have := HT.out.x.blt k hk; omega⟩
            obtain ⟨w6, hw6⟩ : ∃ w6, w6 = wr.alloc (.cells #[.int .i64 kd, .string nm, .string ot, .slice rA rl.length rC] 35) := ⟨_, rfl⟩
            rw [← hw6] at hT2 hR
            rw [← hbx] at hR
            rw [← hw6, ← hbx]
            have HT2 := Lib.hid hT2
            have R6 := Lib.hid hR
            have HNB := Lib.hid hnb
            have HBW := Lib.hid hbw
            have k0 := hR.cell 0
            have k1 := hR.cell 1
            have k2 := hR.cell 2
            have k3 := hR.cell 3
            simp only [List.getElem?_toArray, List.getElem?_cons_zero, List.getElem?_cons_succ] at k0 k1 k2 k3
            clear hw6 hbx hT2 hR hnb hbw HT c0 c1 c2 c3 hz
            go_cut [9] (fun s9 wx => s9 = .bool true ∧ Hid (St10 W wx g1 g2))
            case first =>
              by_cases h1 : kd = 1
              · subst h1
                as_aux_lemma =>
                  have HF6 := Lib.hid (HOK9.out.fs.low HT2.out.low)
                  obtain ⟨A3, C3, w7, hrun, hfs, hm, hnew⟩ := copy_fs w6 rA rC rl HF6.out HLC.out.1
                  have k4 := cell_alloc k3 (.cells #[] 23)
                  have HT7 := Lib.hid (HT2.out.quiet hm)
                  have hlt7 := HT2.out.p.blt
                  have hlt7x := HT2.out.x.blt
                  have HNW := Lib.hid (show ∀ k ∈ (Value.slice A3 rl.length C3).ownBlock.toList, k ∉ bl g1 v1 ∧ k ∉ bl g2 v2 from fun k hk => ⟨fun h => by have := hlt7 k h; have := hnew k hk; omega, fun h => by have := hlt7x k h; have := hnew k hk; omega⟩)
                  have R7 := Lib.hid (R6.out.mods hm (by simp))
                  have HAD := Lib.hid (add_a _ rl w7 HT7.out.p hfs (by have : rl.length ≤ 5000 := HLC.out.1; omega) HLC.out.small (fun _ k hk => ⟨fun e => (HNW.out k hk).1 (by rw [e]; simp), fun h => (HNW.out k hk).1 (List.mem_cons_of_mem _ h)⟩))
                  have HFS := Lib.hid hfs
                  obtain ⟨na, hna⟩ : ∃ n : Nat, n = (addR S.length rl).1 := ⟨_, rfl⟩
                  obtain ⟨ea, hea⟩ : ∃ n : Int, n = (addR S.length rl).2 := ⟨_, rfl⟩
                  have HNA := Lib.hid (And.intro hna hea)
                  rw [← hna, ← hea] at HAD
                  clear hfs hm hnew hlt7 hlt7x k0 k1 k2 hna hea
                  unfold ptr at HAD
                  go_wp2_with (at_builtin; refine wpList_run_app rfl (.tmp 54) (.tmp 56) 31 rfl rfl rfl hrun ?_)
                  clear hrun k3 k4
                  refine HAD.out.mono ?_
                  rintro e w8 ⟨u1, rfl, ha⟩
                  have HT8 := Lib.hid (HT7.out.pa ha)
                  have R8 := Lib.hid (R7.out.mods ha.mods (fun h => HNB.out.1 _ h rfl))
                  have HFS8 := Lib.hid (HFS.out.mods ha.mods (fun k hk => (HNW.out k hk).1))
                  have HFX := Lib.hid (HOK9.out.fs.low HT8.out.low)
                  have HRA := Lib.hid (radd _ rl w8 HT8.out.x HFX.out (by have : rl.length ≤ 5000 := HLC.out.1; omega) HLC.out.small (fun h0 k hk => by
                    have h1 := HOK9.out.fs.lt h0 k hk
                    refine ⟨fun e => ?_, fun hk2 => ?_⟩
                    · have := HT8.out.b2 g2 (by simp); omega
                    · have := HT8.out.b2 k (List.mem_cons_of_mem _ hk2); omega))
                  rw [← HNA.out.1, ← HNA.out.2] at HRA
                  have q3 := R8.out.cell 3
                  simp only [List.getElem?_toArray, List.getElem?_cons_zero, List.getElem?_cons_succ] at q3
                  clear ha HAD
                  unfold ptr at HRA
                  go_wp2_with fail
                  refine HRA.out.mono ?_
                  rintro e w9 ⟨u2, rfl, ha⟩
                  have HT9 := Lib.hid (HT8.out.xa ha)
                  have R9 := R8.out.mods ha.mods (fun h => HNB.out.2 _ h rfl)
                  have HFS9 := Lib.hid (HFS8.out.mods ha.mods (fun k hk => (HNW.out k hk).2))
                  have HFX9 := Lib.hid (HOK9.out.fs.low HT9.out.low)
                  have r3 := R9.cell 3
                  simp only [List.getElem?_toArray, List.getElem?_cons_zero, List.getElem?_cons_succ] at r3
                  have HLL := Lib.hid (show rl.length ≤ 1000000 by have : rl.length ≤ 5000 := HLC.out.1; omega)
                  clear ha HRA q3 R9
                  go_wp2_with fail
                  refine (fields_l rl rl _ _ _ HFS9.out HFX9.out HLL.out HLL.out).mono ?_
                  rw [decide_eq_true (rfl : rl = rl)]
                  rintro e w10 ⟨rfl, hd⟩
                  have HT10 := Lib.hid (HT9.out.quiet (Mods.of_below hd.below))
                  clear hd r3
                  go_wp2
                  go_meet
                  exact ⟨rfl, Lib.hid ⟨_, _, _, HT10.out⟩⟩
              · have e1 : ((kd : Int) == 1) = false := by rw [beq_eq_false_iff_ne]; exact h1
                clear h1
                by_cases h2 : kd = 2
                · subst h2
                  as_aux_lemma =>
                    have hn6 : nm.size ≤ 1000000 := by omega
                    obtain ⟨V, hV⟩ : ∃ V, V = valsF S nm := ⟨_, rfl⟩
                    have hVL : V.length ≤ 24 := by have := valsF_len S nm; have := HT2.out.p.len; rw [hV]; omega
                    obtain ⟨L, hL⟩ : ∃ L, L = V.length := ⟨_, rfl⟩
                    have HV := Lib.hid (show ∀ w', Mods [] w6 w' → Calls Tryd.prog 18 #[ptr g1, .string nm] w' fun e w2 => ∃ a c, e = .returned (.slice a L c) ∧ SsAt w2 (.slice a L c) V ∧ Mods [] w' w2 from fun w' hm =>
                      (vals_a nm w' (HT2.out.p.low hm) hn6).mono fun e w2 ⟨u, he, hG⟩ => by
                        rw [← hV] at hG
                        obtain ⟨a, c, rfl⟩ := hG.form
                        rw [← hL] at he
                        have hs := SsAt.of_row hG.row
                        rw [← hL] at hs
                        exact ⟨a, c, he, hs, hG.low⟩)
                    have HRV := Lib.hid (show ∀ w', Mods [] w6 w' → Calls Tryd.prog 19 #[ptr g2, .string nm] w' fun e w2 => ∃ a c, e = .returned (.slice a L c) ∧ SsAt w2 (.slice a L c) V ∧ Mods [] w' w2 from fun w' hm =>
                      (rvals nm w' (HT2.out.x.low hm) hn6).mono fun e w2 ⟨u, he, hG⟩ => by
                        rw [← hV] at hG
                        obtain ⟨a, c, rfl⟩ := hG.form
                        rw [← hL] at he
                        have hs := SsAt.of_row hG.row
                        rw [← hL] at hs
                        exact ⟨a, c, he, hs, hG.low⟩)
                    have HTX := Lib.hid (fun (w' : World) a c a' c' (h1 : SsAt w' (.slice a L c) V) (h2 : SsAt w' (.slice a' L c') V) => texts_l V V _ _ w' h1 h2 (by omega) (by omega))
                    rw [decide_eq_true (rfl : V = V)] at HTX
                    have HGP := Lib.hid (fun w' hm => get_a nm w' (HT2.out.p.low (w' := w') hm) hn6)
                    have HGX := Lib.hid (fun w' hm => rget nm w' (HT2.out.x.low (w' := w') hm) hn6)
                    have HHP := Lib.hid (fun w' hm => has_a nm w' (HT2.out.p.low (w' := w') hm) hn6)
                    rw [hasF_vals, ← hV, ← hL] at HHP
                    obtain ⟨gs, hgs⟩ : ∃ gs, gs = getF S nm := ⟨_, rfl⟩
                    rw [← hgs] at HGP HGX
                    have hL24 : L ≤ 24 := by omega
                    clear hV hL hVL hgs k0 k2 k3
                    unfold ptr at HV HRV HGP HGX HHP
                    rcases Nat.eq_zero_or_pos L with h0 | h0
                    · subst h0
                      rw [show decide (0 < 0) = false from rfl] at HHP
                      go_wp2_with fail
                      go_region_held3 (fun w' => w'.cell? ⟨bx, 1, none⟩ = some (.string nm)) (go_keep)
                        (first
                          | (go_at_call 18; refine Calls.mono (HV.out _ ?_) ?_; exact (Mods.refl [] w6).same rfl rfl rfl rfl; rintro e y1 ⟨a1, c1, rfl, hs, hm⟩; have hm1 : Mods [] w6 y1 := (by first | exact of_drewF hm | exact hm); have b1 := cell_mods k1 hm1 (by simp); have HS1 := Lib.hid hs; have N1 := Lib.hid hm1; clear hs hm hm1)
                          | (go_at_call 19; refine Calls.mono (HRV.out _ ?_) ?_; exact N1.out; rintro e y2 ⟨a2, c2, rfl, hs, hm⟩; have b2 := cell_mods b1 hm (by simp); have HS2 := Lib.hid (And.intro (HS1.out.low hm) hs); have N2 := Lib.hid (N1.out.trans hm (fun _ h => nomatch h)); clear hs hm)
                          | (go_at_call 17; refine Calls.mono (HTX.out _ _ _ _ _ HS2.out.1 HS2.out.2) ?_; rintro e y3 ⟨rfl, hd⟩; have hm := Mods.of_below (F := []) hd.below; have b3 := cell_mods b2 hm (by simp); have N3 := Lib.hid (N2.out.trans hm (fun _ h => nomatch h)); clear hd hm)
                          | (go_at_call 20; refine Calls.mono (HGP.out _ N3.out) ?_; rintro e y4 ⟨rfl, hm⟩; have b4 := cell_mods b3 hm (by simp); have N4 := Lib.hid (N3.out.trans hm (fun _ h => nomatch h)); clear hm)
                          | (go_at_call 21; refine Calls.mono (HGX.out _ N4.out) ?_; rintro e y5 ⟨rfl, hm⟩; have b5 := cell_mods b4 hm (by simp); have N5 := Lib.hid (N4.out.trans hm (fun _ h => nomatch h)); clear hm)
                          | (go_at_call 22; refine Calls.mono (HHP.out _ N5.out) ?_; rintro e y6 ⟨rfl, hm⟩; have b6 := cell_mods b5 hm (by simp); have N6 := Lib.hid (N5.out.trans hm (fun _ h => nomatch h)); clear hm)
                          | (go_at_call 19; refine Calls.mono (HRV.out _ ?_) ?_; exact N6.out; rintro e y7 ⟨a7, c7, rfl, hs, hm⟩; have b7 := cell_mods b6 hm (by simp); have N7 := Lib.hid (N6.out.trans hm (fun _ h => nomatch h)); clear hs hm))
                      all_goals
                        go_wp2
                        go_meet
                        exact ⟨rfl, Lib.hid ⟨_, _, _, HT2.out.quiet N7.out⟩⟩
                    · rw [decide_eq_true h0] at HHP
                      have hL0 : (0 : Int) < (L : Int) := by omega
                      go_wp2_with fail
                      go_region_held3 (fun w' => w'.cell? ⟨bx, 1, none⟩ = some (.string nm)) (go_keep)
                        (first
                          | (go_at_call 18; refine Calls.mono (HV.out _ ?_) ?_; exact (Mods.refl [] w6).same rfl rfl rfl rfl; rintro e y1 ⟨a1, c1, rfl, hs, hm⟩; have hm1 : Mods [] w6 y1 := (by first | exact of_drewF hm | exact hm); have b1 := cell_mods k1 hm1 (by simp); have HS1 := Lib.hid hs; have N1 := Lib.hid hm1; clear hs hm hm1)
                          | (go_at_call 19; refine Calls.mono (HRV.out _ ?_) ?_; exact N1.out; rintro e y2 ⟨a2, c2, rfl, hs, hm⟩; have b2 := cell_mods b1 hm (by simp); have HS2 := Lib.hid (And.intro (HS1.out.low hm) hs); have N2 := Lib.hid (N1.out.trans hm (fun _ h => nomatch h)); clear hs hm)
                          | (go_at_call 17; refine Calls.mono (HTX.out _ _ _ _ _ HS2.out.1 HS2.out.2) ?_; rintro e y3 ⟨rfl, hd⟩; have hm := Mods.of_below (F := []) hd.below; have b3 := cell_mods b2 hm (by simp); have N3 := Lib.hid (N2.out.trans hm (fun _ h => nomatch h)); clear hd hm)
                          | (go_at_call 20; refine Calls.mono (HGP.out _ N3.out) ?_; rintro e y4 ⟨rfl, hm⟩; have b4 := cell_mods b3 hm (by simp); have N4 := Lib.hid (N3.out.trans hm (fun _ h => nomatch h)); clear hm)
                          | (go_at_call 21; refine Calls.mono (HGX.out _ N4.out) ?_; rintro e y5 ⟨rfl, hm⟩; have b5 := cell_mods b4 hm (by simp); have N5 := Lib.hid (N4.out.trans hm (fun _ h => nomatch h)); clear hm)
                          | (go_at_call 22; refine Calls.mono (HHP.out _ N5.out) ?_; rintro e y6 ⟨rfl, hm⟩; have b6 := cell_mods b5 hm (by simp); have N6 := Lib.hid (N5.out.trans hm (fun _ h => nomatch h)); clear hm)
                          | (go_at_call 19; refine Calls.mono (HRV.out _ ?_) ?_; exact N6.out; rintro e y7 ⟨a7, c7, rfl, hs, hm⟩; have b7 := cell_mods b6 hm (by simp); have N7 := Lib.hid (N6.out.trans hm (fun _ h => nomatch h)); clear hs hm))
                      all_goals
                        go_wp2
                        go_meet
                        exact ⟨rfl, Lib.hid ⟨_, _, _, HT2.out.quiet N7.out⟩⟩
                · have e2 : ((kd : Int) == 2) = false := by rw [beq_eq_false_iff_ne]; exact h2
                  clear h2
                  by_cases h3 : kd = 3
                  · subst h3
                    as_aux_lemma =>
                      have hsn : SmallS [nm, ot] := by
                        intro p hp
                        simp only [List.mem_cons, List.mem_nil_iff, or_false] at hp
                        rcases hp with rfl | rfl <;> omega
                      obtain ⟨D, hD⟩ : ∃ D, D = dropF S [nm, ot] := ⟨_, rfl⟩
                      obtain ⟨dn, hdn⟩ : ∃ dn : Int, dn = (S.length : Int) - ((dropF S [nm, ot]).length : Int) := ⟨_, rfl⟩
                      have hb1 := HT2.out.p.blt
                      have HDP := Lib.hid (show ∀ (w' : World) (q : Nat), Mods [] w6 w' → w6.heap.size ≤ q → Row w' q 9 #[.string nm, .string ot] → Calls Tryd.prog 23 #[ptr g1, .slice (some ⟨q, 0, none⟩) 2 2] w' fun e w2 => ∃ u, e = .returned (.int .i64 dn) ∧ Added 62 w6 g1 v1 D u w2 ∧ Mods (bl g1 v1) w' w2 from fun w' q hm hq hr =>
                        (drop_a _ [nm, ot] w' (HT2.out.p.low hm) (row_ss hr) (by simp) hsn (fun k hk h => by
                          have e : k = q := by simpa [Value.ownBlock, eq_comm] using hk
                          subst e
                          have := hb1 _ (List.mem_cons_of_mem _ h); omega)).mono fun e w2 ⟨u, he, hub, hf, hm2⟩ => by
                            rw [← hD] at hf
                            rw [← hdn] at he
                            exact ⟨u, he, (added_drop hub hf hm2).from_ hm, hm2⟩)
                      have HDX := Lib.hid (show ∀ (w' : World) (q : Nat) (u : Value), Two 62 40 W w' g1 u D g2 v2 S → Row w' q 9 #[.string nm, .string ot] → Calls Tryd.prog 24 #[ptr g2, .slice (some ⟨q, 0, none⟩) 2 2] w' fun e w2 => ∃ u, e = .returned (.int .i64 dn) ∧ Added 40 w' g2 v2 D u w2 from fun w' q u hT hr =>
                        (rdrop _ [nm, ot] w' hT.x (row_ss hr) (by simp) hsn).mono fun e w2 ⟨u, he, ha⟩ => by
                            rw [← hD] at ha
                            rw [← hdn] at he
                            exact ⟨u, he, ha⟩)
                      have HN1 := Lib.hid (show bx ∉ bl g1 v1 from fun h => HNB.out.1 _ h rfl)
                      have HN2 := Lib.hid (show bx ∉ bl g2 v2 from fun h => HNB.out.2 _ h rfl)
                      have HLT := Lib.hid (show ∀ q, w6.heap.size ≤ q → q ∉ bl g1 v1 from fun q hq h => by have := hb1 q h; omega)
                      clear hsn hD hdn hb1 k0 k3
                      unfold ptr at HDP HDX
                      go_wp2_with fail
                      go_region_held3 (fun w' => w'.cell? ⟨bx, 1, none⟩ = some (.string nm) ∧ w'.cell? ⟨bx, 2, none⟩ = some (.string ot)) (go_keep)
                        (first
                          | (go_at_call 23; (with_reducible show Calls _ _ #[_, .slice (some ⟨w6.heap.size, 0, none⟩) 2 2] (World.drew (World.alloc w6 _)) _); refine Calls.mono (HDP.out _ w6.heap.size ?_ (Nat.le_refl _) ?_) ?_; exact ((Mods.refl [] w6).alloc _).same rfl rfl rfl rfl; exact Row.new w6 _ _; rintro e y1 ⟨u1, rfl, ha, hm⟩; have b1 := cell_mods k1 ha.mods HN1.out; have b2 := cell_mods k2 ha.mods HN1.out; have T1 := Lib.hid (HT2.out.pa ha); clear ha hm)
                          | (go_at_call 23; (with_reducible show Calls _ _ #[_, .slice (some ⟨w6.heap.size, 0, none⟩) 2 2] (World.drew (World.alloc (World.alloc w6 _) _)) _); refine Calls.mono (HDP.out _ w6.heap.size ?_ (Nat.le_refl _) ?_) ?_; exact (((Mods.refl [] w6).alloc _).alloc _).same rfl rfl rfl rfl; exact (Row.new w6 _ _).alloc _; rintro e y1 ⟨u1, rfl, ha, hm⟩; have b1 := cell_mods k1 ha.mods HN1.out; have b2 := cell_mods k2 ha.mods HN1.out; have T1 := Lib.hid (HT2.out.pa ha); have RB2 := Lib.hid (Row.mods (row_second w6 _) (of_drewF hm) (HLT.out _ (Nat.le_succ _))); clear ha hm)
                          | (go_at_call 23; (with_reducible show Calls _ _ #[_, .slice (some ⟨w6.heap.size + 1, 0, none⟩) 2 2] (World.drew (World.alloc (World.alloc w6 _) _)) _); refine Calls.mono (HDP.out _ (w6.heap.size + 1) ?_ (Nat.le_succ _) ?_) ?_; exact (((Mods.refl [] w6).alloc _).alloc _).same rfl rfl rfl rfl; exact row_second w6 _; rintro e y1 ⟨u1, rfl, ha, hm⟩; have b1 := cell_mods k1 ha.mods HN1.out; have b2 := cell_mods k2 ha.mods HN1.out; have T1 := Lib.hid (HT2.out.pa ha); have RB2 := Lib.hid (Row.mods ((Row.new w6 _ _).alloc _) (of_drewF hm) (HLT.out _ (Nat.le_refl _))); clear ha hm)
                          | (go_at_call 24; (with_reducible show Calls _ _ #[_, .slice (some ⟨y1.heap.size, 0, none⟩) 2 2] (World.alloc y1 _) _); refine Calls.mono (HDX.out _ y1.heap.size u1 (T1.out.quiet ((Mods.refl [] y1).alloc _)) (Row.new y1 _ _)) ?_; rintro e y2 ⟨u2, rfl, ha⟩; have b3 := cell_mods (cell_alloc b1 _) ha.mods HN2.out; have b4 := cell_mods (cell_alloc b2 _) ha.mods HN2.out; have T2 := Lib.hid ((T1.out.quiet ((Mods.refl [] y1).alloc _)).xa ha); clear ha)
                          | (go_at_call 24; refine Calls.mono (HDX.out _ _ u1 T1.out RB2.out) ?_; rintro e y2 ⟨u2, rfl, ha⟩; have b3 := cell_mods b1 ha.mods HN2.out; have b4 := cell_mods b2 ha.mods HN2.out; have T2 := Lib.hid (T1.out.xa ha); clear ha))
                      all_goals
                        go_wp2
                        go_meet
                        exact ⟨rfl, Lib.hid ⟨_, _, _, T2.out⟩⟩
                  · have e3 : ((kd : Int) == 3) = false := by rw [beq_eq_false_iff_ne]; exact h3
                    clear h3
                    go_wp2
                    go_meet
                    exact ⟨rfl, Lib.hid ⟨_, _, _, HT2.out⟩⟩
            case rest =>
              as_aux_lemma =>
                obtain ⟨rfl, hst⟩ := hcut
                obtain ⟨x1, x2, S2, hT⟩ := hst.out
                have HTc := Lib.hid hT
                clear hst hT
                go_wp2_with fail
                refine (all_a _ HTc.out.p).mono ?_
                rintro e w11 ⟨B, rfl, hG⟩
                have hT11 := HTc.out.quiet hG.low
                have hBn := hG.news B (by simp [Value.ownBlock])
                have HBB := Lib.hid (show (∀ k ∈ bl g1 x1, k ≠ B) ∧ (∀ k ∈ bl g2 x2, k ≠ B) ∧ W.heap.size ≤ B from ⟨fun k hk => by have := HTc.out.p.blt k hk; omega, fun k hk => by have := HTc.out.x.blt k hk; omega, Nat.le_trans HTc.out.low.size hBn⟩)
                have HG11 := Lib.hid hG.row
                have HF11 := Lib.hid (And.intro (FsAt.of_row hG.row) hT11.x.fs)
                have HT11 := Lib.hid hT11
                obtain ⟨a2, c2, hx2⟩ := hT11.x.form
                have c0 := hT11.x.cell
                have hS24 := hT11.p.len
                rw [hx2] at c0 HF11
                have HLen := Lib.hid (fun w' hm => len_a w' (HT11.out.p.low (w' := w') hm))
                have HFld := Lib.hid (fun w' (hm : Mods [] w11 w') => fields_l S2 S2 _ _ w' (HF11.out.1.low hm) (HF11.out.2.low hm) (by omega) (by omega))
                rw [decide_eq_true (rfl : S2 = S2)] at HFld
                obtain ⟨n, hn⟩ : ∃ n, n = S2.length := ⟨_, rfl⟩
                have HN := Lib.hid hn
                rw [← hn] at HLen HFld c0 hS24
                rw [← hn]
                clear hG hT11 hBn hx2 hn HF11
                unfold ptr at HLen
                go_wp2_with fail
                go_region_held3 (fun w' => w'.cell? ⟨g2, 0, none⟩ = some (.slice a2 n c2)) (go_keep)
                  (first
                    | (go_at_call 26; refine Calls.mono (HLen.out _ ?_) ?_; exact (Mods.refl [] w11).same rfl rfl rfl rfl; rintro e w12 ⟨rfl, rfl⟩)
                    | (go_at_call 16; refine Calls.mono (HFld.out _ ?_) ?_; exact (Mods.refl [] w11).same rfl rfl rfl rfl; rintro e w13 ⟨rfl, hd⟩; have m13 : Mods [] w11 w13 := (by first | exact of_drewF (Mods.of_below hd.below) | exact Mods.of_below hd.below); have c13 := cell_mods c0 m13 (by simp); have M13 := Lib.hid m13; clear hd m13))
                all_goals
                  have HT13 := Lib.hid (HT11.out.quiet M13.out)
                  obtain ⟨cap9, cur9, hrow9, hsz9⟩ : ∃ (cap9 : Nat) (cur : Array Value), (0 < n → Row w13 B 23 cur) ∧ n * 2 ≤ cur.size := by
                    rcases HG11.out.2 with ⟨_, h0⟩ | ⟨gg, cap, cur, hv, _, hg, h1, _, h3, _⟩
                    · exact ⟨0, #[], fun h => by have := HN.out; omega, by have := HN.out; omega⟩
                    · injection hv with hv
                      injection hv with hv
                      injection hv with hv
                      subst hv
                      refine ⟨cap, cur, fun _ => Row.mods (show Row w11 B 23 cur from hg) M13.out (by simp), ?_⟩
                      have := HN.out
                      have := Nat.mul_le_mul_right 2 h1
                      omega
                  have HR9 := Lib.hid (And.intro hrow9 hsz9)
                  clear c13 c0 hrow9 hsz9
                  go_wp2_with fail
                  go_loopw [16] (fun i wr => ∃ (q : Nat) (cur : Array Value), q ≤ n ∧ i = .int .i64 q ∧ Hid ((0 < n → Row wr B 23 cur) ∧ n * 2 ≤ cur.size) ∧ Hid (Two 62 40 W wr g1 x1 S2 g2 x2 S2)) (fun i _ => n - (intOf i).toNat)
                  case atStart => exact ⟨0, cur9, Nat.zero_le _, rfl, HR9, HT13⟩
                  case round =>
                    obtain ⟨q, cur, hq, rfl, hr9, ht9⟩ := hrel
                    by_cases hqn : q < n
                    · have hrow := hr9.out.1 (by omega)
                      have hcz := hr9.out.2
                      have z0 : wr.cell? ⟨B, q * 2, none⟩ = some (cur[q * 2]'(by omega)) := by rw [hrow.cell]; exact Array.getElem?_eq_getElem _
                      have z1 := hrow.free (q * 2)
                      have HRW := Lib.hid hrow
                      obtain ⟨zz, hzz⟩ : ∃ zz, zz = cur[q * 2]'(by omega) := ⟨_, rfl⟩
                      rw [← hzz] at z0
                      clear hzz hrow
                      go_wp2
                      go_roundw
                      case rel => exact ⟨q + 1, cur.setIfInBounds (q * 2) (.string ⟨#[115, 112, 111, 105, 108, 116]⟩), by omega, by go_num, Lib.hid ⟨fun _ => HRW.out.set _ _, by simpa using hcz⟩, Lib.hid (ht9.out.far ((Mods.refl [B] wr).setCell (.inl (by simp)) _) (fun k hk => by simpa using HBB.out.1 k hk) (fun k hk => by simpa using HBB.out.2.1 k hk) (fun k hk => by rw [List.mem_singleton] at hk; subst hk; exact HBB.out.2.2))⟩
                      case measure => simp [intOf]; omega
                    · go_wp2
                      go_roundw
                      case rel => exact ⟨k + 1, by omega, by omega, by go_num, Lib.hid ⟨x1, x2, S2, ht9.out⟩⟩
                      case measure => simp [intOf]; omega
          · have h80e : k = 80 := by omega
            as_aux_lemma =>
              obtain ⟨a2, c2, hx2⟩ := HT.out.x.form
              have c0 := HT.out.x.cell
              have hFX := HT.out.x.fs
              have hS24 := HT.out.p.len
              rw [hx2] at c0 hFX
              have HAll := Lib.hid (fun w' hm => all_a w' (HT.out.p.low (w' := w') hm))
              have HFld := Lib.hid (fun B w' (hf : FsAt w' (.slice (some ⟨B, 0, none⟩) S.length S.length) S) (hm : Mods [] wr w') => fields_l S S _ _ w' hf (hFX.low hm) (by omega) (by omega))
              rw [decide_eq_true (rfl : S = S)] at HFld
              clear hFX hx2
              unfold ptr at HAll
              go_wp2_with fail
              go_region_held3 (fun w' => w'.cell? ⟨g2, 0, none⟩ = some (.slice a2 S.length c2)) (go_keep)
                (first
                  | (go_at_call 25; refine Calls.mono (HAll.out _ ?_) ?_; exact (Mods.refl [] wr).same rfl rfl rfl rfl; rintro e w11 ⟨B, rfl, hG⟩; have m11 : Mods [] wr w11 := (by first | exact of_drewF hG.low | exact hG.low); have c11 := cell_mods c0 m11 (by simp); have HFA := Lib.hid (FsAt.of_row hG.row); have M11 := Lib.hid m11; clear hG m11)
                  | (go_at_call 16; refine Calls.mono (HFld.out _ _ HFA.out M11.out) ?_; rintro e w12 ⟨rfl, hd⟩; have m12 : Mods [] wr w12 := M11.out.trans (Mods.of_below (F := []) hd.below) (fun _ h => nomatch h); have c12 := cell_mods c0 m12 (by simp); have M12 := Lib.hid m12; clear hd m12)
                  | (go_at_call 11; refine Calls.mono (known_l _) ?_; rintro e w13 ⟨rfl, hm⟩; have m13 : Mods [] wr w13 := M12.out.trans hm (fun _ h => nomatch h); have c13 := cell_mods c0 m13 (by simp); have M13 := Lib.hid m13; clear hm m13))
              all_goals
                go_wp2
                go_ret
                exact ⟨rfl, (HT.out.quiet M13.out).low.below⟩
        · have h80e : k = k := rfl
          as_aux_lemma =>
            obtain ⟨a2, c2, hx2⟩ := HT.out.x.form
            have c0 := HT.out.x.cell
            have hFX := HT.out.x.fs
            have hS24 := HT.out.p.len
            rw [hx2] at c0 hFX
            have HAll := Lib.hid (fun w' hm => all_a w' (HT.out.p.low (w' := w') hm))
            have HFld := Lib.hid (fun B w' (hf : FsAt w' (.slice (some ⟨B, 0, none⟩) S.length S.length) S) (hm : Mods [] wr w') => fields_l S S _ _ w' hf (hFX.low hm) (by omega) (by omega))
            rw [decide_eq_true (rfl : S = S)] at HFld
            clear hFX hx2
            unfold ptr at HAll
            go_wp2_with fail
            go_region_held3 (fun w' => w'.cell? ⟨g2, 0, none⟩ = some (.slice a2 S.length c2)) (go_keep)
              (first
                | (go_at_call 25; refine Calls.mono (HAll.out _ ?_) ?_; exact (Mods.refl [] wr).same rfl rfl rfl rfl; rintro e w11 ⟨B, rfl, hG⟩; have m11 : Mods [] wr w11 := (by first | exact of_drewF hG.low | exact hG.low); have c11 := cell_mods c0 m11 (by simp); have HFA := Lib.hid (FsAt.of_row hG.row); have M11 := Lib.hid m11; clear hG m11)
                | (go_at_call 16; refine Calls.mono (HFld.out _ _ HFA.out M11.out) ?_; rintro e w12 ⟨rfl, hd⟩; have m12 : Mods [] wr w12 := M11.out.trans (Mods.of_below (F := []) hd.below) (fun _ h => nomatch h); have c12 := cell_mods c0 m12 (by simp); have M12 := Lib.hid m12; clear hd m12)
                | (go_at_call 11; refine Calls.mono (known_l _) ?_; rintro e w13 ⟨rfl, hm⟩; have m13 : Mods [] wr w13 := M12.out.trans hm (fun _ h => nomatch h); have c13 := cell_mods c0 m13 (by simp); have M13 := Lib.hid m13; clear hm m13))
            all_goals
              go_wp2
              go_ret
              exact ⟨rfl, (HT.out.quiet M13.out).low.below⟩

theorem own : ownKnob Tryd.prog.godebug = none := by kernel_rfl
theorem laidOut : laidOutB Tryd.prog = true := by kernel_rfl
set_option maxRecDepth 100000 in
theorem lifted (os : Os) (started : os.Started) (H : Type) (enc : TypeId × Value → H) :
    ReturnsInHanded {} Tryd.checked os 4 .any (fun w args => (Rows.fieldPlaysSpec.pre enc Tryd.prog Tryd.f4 [] false w args ∧ laidMetH Tryd.prog Rows.fieldPlaysRow.laid w) ∧ sizedMet enc Tryd.prog Tryd.f4 (OpenSpec.ofChange Rows.fieldPlaysSpec) false w args)
      (Rows.fieldPlaysSpec.post enc Tryd.prog Tryd.f4 false true false false) := by
  refine returnsInHanded_of_change_and (C := Tryd.checked) (X := fun w _ => laidMetH Tryd.prog Rows.fieldPlaysRow.laid w) (fun _ _ _ hh h => h.of_heap hh) own started (by kernel_rfl) Tryd.func4
    (ChangeSpec.witness_shaped (enc := enc) (C := Tryd.checked) (os := os) (X := fun w _ => laidMetH Tryd.prog Rows.fieldPlaysRow.laid w) false (World.laidAll Tryd.prog os Rows.fieldPlaysRow.laid) #[.slice none 0 0, .slice none 0 0] 8 (World.laidAll_os _ _ _)
      (World.shaped_of_ZipB (by kernel_rfl) (by kernel_rfl)) (by kernel_rfl) (by kernel_rfl) (by kernel_rfl)
      (by rw [MakeChecks.laidMetH_plain _ _ _ (by kernel_rfl)]; exact laidMet_laidAll _ (by kernel_rfl) (by kernel_rfl))) ?_
  intro W base args ds gs before hval0 hW hcnd hsz0 hL _
  have hsz : (DataW.weightsEach Tryd.prog (Tryd.f4.params.toList ++ Rows.fieldPlaysSpec.plain.varTypes Tryd.prog) (ds ++ gs)).all (· ≤ reachBytes) = true := hsz0
  have hval : ∀ (j : Nat) t v, Tryd.f4.params[j]? = some t → args[j]? = some v → Value.okWide Tryd.prog W .any base t v := hval0
  have hW' := hW
  obtain ⟨p, q, hA0, hV, rfl, hfz, hnd⟩ := hW
  have hA : DataW.TrodAll enc Tryd.prog W 0 (fun _ => true) true Tryd.f4.params.toList args.toList ds p := hA0
  rw [Tryd.params4] at hA hval hsz
  obtain ⟨v0, vs0, d0, ds0, p0, q0, hargs, rfl, rfl, h0, r0⟩ := trodAll_cons hA
  obtain ⟨v1, vs1, d1, ds1, p1, q1, rfl, rfl, rfl, h1, r1⟩ := trodAll_cons r0
  obtain ⟨rfl, rfl, rfl⟩ := trodAll_nil r1
  obtain rfl : args = #[v0, v1] := by cases args; simp_all
  obtain ⟨rfl, rfl⟩ := trodVars_none hV
  have k0 := h0
  have lt0 : ∀ x ∈ p0, x.block < W.heap.size := by obtain ⟨m, hm⟩ := k0; exact DataW.trod_lt m _ _ _ hm
  obtain ⟨fr0, rfl, o0⟩ := open_fs (hval 0 31 v0 rfl rfl) k0 (fun n hn => by simpa using List.all_eq_true.1 hsz n (DataW.weights_mem_each (j := 0) (t := 31) rfl rfl n hn))
  have k1 := h1
  have lt1 : ∀ x ∈ p1, x.block < W.heap.size := by obtain ⟨m, hm⟩ := k1; exact DataW.trod_lt m _ _ _ hm
  obtain ⟨al1, o1⟩ := open_acts10 (hval 1 32 v1 rfl rfl) k1 (fun n hn => by simpa using List.all_eq_true.1 hsz n (DataW.weights_mem_each (j := 1) (t := 32) rfl rfl n hn))
  clear hA0 hval0 hsz0 hsz
  refine (walk W fr0 o0 v1 al1 o1).mono fun e W' ⟨he, bel⟩ => ?_
  subst he
  exact ⟨_, rfl, _, _, _, [], _, [], hW', trodAll_mk1 (shut_bool Tryd.underlying4 _), (trodAll_cons_mk (Below.trod laidOut (by kernel_rfl) (of_decide_eq_true (by kernel_rfl)) k0 bel lt0) (trodAll_cons_mk (Below.trod laidOut (by kernel_rfl) (of_decide_eq_true (by kernel_rfl)) k1 bel lt1) trodAll_mk0)), rfl, bel.frame _, fun h => by cases h⟩

theorem over : Rows.fieldPlaysRow.holds Tryd.pinned (OpenSpec.ofChange Rows.fieldPlaysSpec) :=
  OpenClaim.holds_of_wide 4 Tryd.f4 rfl rfl rfl rfl rfl rfl rfl ⟨rfl, rfl, rfl, rfl, rfl⟩ rfl rfl rfl rfl rfl (by kernel_rfl) Tryd.func4 (by kernel_rfl)
    (of_decide_eq_true (by kernel_rfl)) (by unfold Func.isWrapper; first | (rw [if_pos (by decide +kernel)]; kernel_rfl) | (rw [if_neg (by decide +kernel)]; exact ⟨rfl, rfl⟩))
    (fun os started H enc _ => lifted os started H enc)

theorem said : Rows.FieldPlaysSaid := over
theorem plain (f : FuncId) (fn : Func) (hf : Tryd.pinned.checked.prog.funcNamed "usher/usherlaw10.FieldPlays" = some f) (hfn : Tryd.pinned.checked.prog.funcs[f]? = some fn) :
    false = Tryd.pinned.checked.prog.looks [] ∧ ∀ (j : Nat) t, fn.params[j]? = some t → Tryd.pinned.checked.prog.wantsStandIn t = false := by
  obtain rfl : f = 4 := Option.some.inj ((show Tryd.prog.funcNamed "usher/usherlaw10.FieldPlays" = some 4 by kernel_rfl).symm.trans hf) |>.symm
  obtain rfl : fn = Tryd.f4 := (Option.some.inj (Tryd.func4.symm.trans hfn)).symm
  refine ⟨by kernel_rfl, fun j t ht => ?_⟩
  rw [Tryd.params4] at ht
  have hm : t ∈ [31, 32] := by simpa using Array.mem_of_getElem? ht
  simp only [List.mem_cons, List.mem_nil_iff, or_false] at hm
  rcases hm with rfl | rfl
  · exact (show Tryd.prog.wantsStandIn 31 = false by kernel_rfl)
  · exact (show Tryd.prog.wantsStandIn 32 = false by kernel_rfl)
theorem proved : Rows.FieldPlaysCardSaid :=
  Claim7.holds_tied_plain_at .later [] _ _ _ _ said (fun _ h => by cases h) (by kernel_rfl) (fun _ h => by cases h) fieldPlays_row_tie rfl ⟨rfl, rfl⟩ (by kernel_rfl) rfl plain (by kernel_rfl)
end Go.Proofs.YtakimadhbgpedaaDoor.fieldPlays
