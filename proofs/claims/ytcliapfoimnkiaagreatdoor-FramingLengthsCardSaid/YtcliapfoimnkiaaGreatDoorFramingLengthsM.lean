/- For every minor version and every list of numbers, with a coding or without, the code's Of takes one length and refuses two unlike ones: the law returns true. Condition: the library's tables are laid as its initialisers lay them. -/
import Derived.Test.YtcliapfoimnkiaaGreatDoorCards
import Derived.Test.YtcliapfoimnkiaaGreatDoorTie
import Derived.Lay
import Derived.LaidOnce
import Derived.MakeChecks
import Derived.SevenTiedAt
import Derived.WalkKit
import Derived.ProofKit
import Derived.OpenShut
import Derived.ShutString
import Derived.ChangeOld
import Derived.Below
import Derived.SizedLaws
import Derived.Test.YtcliapfoimnkiaaGreatDoorMhC
import Derived.Test.YtcliapfoimnkiaaGreatDoorOpen
import Derived.Carry
import Derived.Deep.CutBlock
import Derived.BigQuiet
import Derived.Deep.RegionHeld3
namespace Go.Proofs.YtcliapfoimnkiaaGreatDoor.framingLengths
open Go.ChangeShapes Go.WideShapes Go.ChangeAt Go.RowKit
open Go.ChangeMaps (open_string shut_string)
set_option linter.unusedVariables false

set_option maxRecDepth 10000 in
set_option maxHeartbeats 4000000 in
theorem walk (W : World) (m : Int) (hm : (Lit.int .i64 m).wf = true) (v : Value) (o : IsInts W v) (cd : Bool) : Calls Tryz.prog 4 #[.int .i64 m, v, .bool cd] W fun e W' => e = .returned (.bool true) ∧ Below W.heap.size W W' := by
  obtain ⟨A, C, xs, rfl, hc⟩ := ints_gen o
  have HC := Lib.hid hc
  clear hm o hc
  by_cases h10 : 15 < xs.length
  · have hd : decide (15 < xs.length) = true := decide_eq_true h10
    go_enter Tryz.func4, Tryz.ntmps4
    go_wp2
    go_ret
    exact ⟨rfl, Below.refl _ _⟩
  · have hlen : xs.length ≤ 15 := by omega
    have hd : decide ((15 : Int) < (xs.length : Int)) = false := decide_eq_false (by omega)
    have HL := Lib.hid (Gt.lit W 35 2 1 #[.string ⟨#[72, 111, 115, 116]⟩, .string ⟨#[97]⟩] rfl (by decide))
    go_enter Tryz.func4, Tryz.ntmps4
    go_wp2_with fail
    go_loopw [7, 8, 9] (fun l r i wr => ∃ k : Nat, k ≤ xs.length ∧ i = .int .i64 k ∧ r = .bool (((xs.map nOf).take k).all fun n => decide (n = (xs.map nOf).headD 0)) ∧ Gt W 35 2 (len0 ((xs.map nOf).take k)).length (encF (len0 ((xs.map nOf).take k))) l wr) (fun _ _ i _ => xs.length - (intOf i).toNat)
    case atStart => exact ⟨0, Nat.zero_le _, rfl, rfl, HL.out⟩
    case round =>
      obtain ⟨k, hk, rfl, rfl, hG⟩ := hrel
      have HG := Lib.hid hG
      clear hG
      by_cases hlt : k < xs.length
      · obtain ⟨b, o, rfl, hx⟩ := HC.out k hlt
        obtain ⟨b2, o2, hb2, hx0⟩ := HC.out 0 (by omega)
        injection hb2 with hb2
        injection hb2 with hb3 hb4
        subst hb3; subst hb4
        have ck := cell_mods hx HG.out.low (by simp)
        have c0 := cell_mods hx0 HG.out.low (by simp)
        have HT := Lib.hid (show (xs.map nOf).take (k + 1) = (xs.map nOf).take k ++ [nOf xs[k]] by rw [List.take_succ_eq_append_getElem (by rw [List.length_map]; exact hlt), List.getElem_map])
        have HH := Lib.hid (show (xs.map nOf).headD 0 = nOf (xs[0]'(by omega)) by cases xs with | nil => simp at hlt | cons a r => rfl)
        obtain ⟨x, hxx⟩ : ∃ x, x = xs[k] := ⟨_, rfl⟩
        obtain ⟨x0, hxx0⟩ : ∃ x, x = xs[0]'(by omega) := ⟨_, rfl⟩
        rw [← hxx] at ck HT
        rw [← hxx0] at c0 HH hx0
        rw [← hxx] at hx
        clear hxx hxx0
        rw [Nat.add_zero] at c0 hx0
        obtain ⟨q, hq0, hq1⟩ := and_maskK x 4095 (by omega)
        obtain ⟨q00, hp0, hp1⟩ := and_maskK x0 4095 (by omega)
        rw [show ((4095 : Nat) : Int) = 4095 from rfl] at hq0 hp0
        rw [show nOf x = q by unfold nOf; rw [hq0]; rfl] at HT
        rw [show nOf x0 = q00 by unfold nOf; rw [hp0]; rfl] at HH
        have HON := Lib.hid (show len0 ((xs.map nOf).take (k + 1)) = len0 ((xs.map nOf).take k) ++ [(nCL, decB q)] by rw [HT.out]; exact len0_snoc _ _)
        have HAN := Lib.hid (show (((xs.map nOf).take (k + 1)).all fun n => decide (n = (xs.map nOf).headD 0)) = ((((xs.map nOf).take k).all fun n => decide (n = (xs.map nOf).headD 0)) && decide (q = q00)) by rw [HT.out, List.all_append, HH.out]; simp)
        generalize (((xs.map nOf).take k).all fun n => decide (n = (xs.map nOf).headD 0)) = rs at *
        have HD := Lib.hid (fun w => dec_r (q : Int) (by omega) w)
        rw [Int.toNat_natCast] at HD
        have hroom : (len0 ((xs.map nOf).take k)).length + 1 ≤ 1000000 := by rw [len0_len]; simp; omega
        obtain ⟨va, vc, rfl⟩ := HG.out.form
        generalize decB q = y at *
        go_upto_region 9 with (first
          | (go_at_call 10; refine (HD.out _).mono ?_; rintro e w2 ⟨rfl, hb⟩; obtain ⟨g5, n5, c5, w3, hrun, hG5⟩ := (HG.out.mods (.of_below hb)).app Tryz.underlying22 infoFl rfl (by decide) hroom (by decide) [.string nCL, .string y] rfl (by simp [Value.oneCell']); have HREL := Lib.hid (show Gt W 35 2 (len0 ((xs.map nOf).take (k + 1))).length (encF (len0 ((xs.map nOf).take (k + 1)))) (.slice (some ⟨g5, 0, none⟩) n5 c5) w3 by rw [HON.out, List.length_append, encF_append]; exact hG5); clear hb hG5)
          | (at_builtin; refine wpList_run_appF rfl (.tmp 24) (.tmp 32) 22 rfl rfl rfl hrun ?_))
        have d0 := cell_mods hx0 HREL.out.low (by simp)
        have dk := cell_mods hx HREL.out.low (by simp)
        cases rs with
        | true =>
          by_cases hqq : q = q00
          · have HQ := Lib.hid (decide_eq_true hqq)
            have hqe : ((q : Int) == (q00 : Int)) = true := by simp; omega
            clear hqq
            go_quiet (fail)
            go_wp2
            go_roundw
            case rel => exact ⟨k + 1, by omega, by go_num, by rw [HAN.out, HQ.out]; rfl, HREL.out.mods ((Mods.refl [] _).drewN _)⟩
            case measure => simp [intOf]; omega
          · have HQ := Lib.hid (decide_eq_false hqq)
            have hqe : ((q : Int) == (q00 : Int)) = false := by simp; omega
            clear hqq
            go_quiet (fail)
            go_wp2
            go_roundw
            case rel => exact ⟨k + 1, by omega, by go_num, by rw [HAN.out, HQ.out]; rfl, HREL.out.mods ((Mods.refl [] _).drewN _)⟩
            case measure => simp [intOf]; omega
        | false =>
          go_quiet (fail)
          go_wp2
          go_roundw
          case rel => exact ⟨k + 1, by omega, by go_num, by rw [HAN.out]; rfl, HREL.out.mods ((Mods.refl [] _).drewN _)⟩
          case measure => simp [intOf]; omega
      · obtain rfl : k = xs.length := by omega
        have hkl : (xs.map nOf).take xs.length = xs.map nOf := List.take_of_length_le (by rw [List.length_map]; exact Nat.le_refl _)
        have hG := HG.out
        rw [hkl] at hG
        have hrs : ((xs.map nOf).take xs.length).all (fun n => decide (n = (xs.map nOf).headD 0)) = sameN (xs.map nOf) := by rw [hkl]; rfl
        rw [hrs]
        have hn4 : ∀ n ∈ xs.map nOf, n ≤ 4095 := nOf_mem
        have hkn : (xs.map nOf).length = xs.length := by rw [List.length_map]
        have HH0 := Lib.hid (show ∀ (h : 0 < xs.length), (xs.map nOf).headD 0 = nOf (xs[0]'h) from fun h => by cases xs with | nil => simp at h | cons a r => rfl)
        have HLF := Lib.hid (fun c => lens_frm m c hn4)
        have HOF := Lib.hid (fun c => lenF_of c hn4 (by omega))
        have HWG := Lib.hid (fun c => lenF_wgt c hn4 (by omega))
        generalize xs.map nOf = ns at *
        have hnz : ns = [] ↔ xs.length = 0 := ⟨fun h => by rw [h] at hkn; simpa using hkn.symm, fun h => List.eq_nil_of_length_eq_zero (by omega)⟩
        obtain ⟨va, vc, hv⟩ := hG.form
        subst hv
        have HG2 := Lib.hid hG
        clear hG hkl hlt hk hrs hn4 HG
        cases cd with
        | true =>
          obtain ⟨g8, n8, c8, w8, hrun, hG8⟩ := HG2.out.app Tryz.underlying22 infoFl rfl (by decide) (show (len0 ns).length + 1 ≤ 1000000 by rw [len0_len]; omega) (by decide) [.string nTE, .string chunkedB] rfl (by simp [Value.oneCell'])
          have HGL := Lib.hid (show Gt W 35 2 (lenF ns (if true = true then [chunkedB] else [])).length (encF (lenF ns (if true = true then [chunkedB] else []))) (.slice (some ⟨g8, 0, none⟩) n8 c8) w8 by rw [if_pos rfl, lenF_one, List.length_append, encF_append]; exact hG8)
          clear hG8
          have HO := Lib.hid (show Calls Tryz.prog 11 #[.slice (some ⟨g8, 0, none⟩) n8 c8] w8 (fun e w' => ∃ g u, e = .returned (ptr g) ∧ Made 63 w8 g u (lenF ns (if true = true then [chunkedB] else [])) w') from by have h := of_a _ (lenF ns (if true = true then [chunkedB] else [])) w8 (FsAt.of_row HGL.out.row) (wgt_len (HWG.out true)) (wgt_small (HWG.out true)); rw [HOF.out true] at h; exact h)
          have HOL := Lib.hid (fun w' (hm : Mods [] w8 w') => of_l m _ (lenF ns (if true = true then [chunkedB] else [])) w' ((FsAt.of_row HGL.out.row).low hm) (HWG.out true))
          have HFR := Lib.hid (fun (g : Nat) (v : Value) (w : World) (h : Fld 63 w g v (lenF ns (if true = true then [chunkedB] else []))) => of_f (m := m) (FP.of_fld h) (by have h2 := wgt_lite (HWG.out true); rw [HOF.out true] at h2; exact h2))
          rw [HLF.out true] at HFR
          have HLOW := Lib.hid HGL.out.low
          by_cases hn0 : xs.length = 0
          · have hz0 : decide ((0 : Int) < (xs.length : Int)) = false := decide_eq_false (by omega)
            by_cases hm1 : m < 1
            · have hm2 : decide (m < 1) = true := decide_eq_true hm1
              rw [lenR_400 (.inr hm1)] at HFR
              unfold HAns at HFR
              clear hm1 hnz HLF HOF HWG HH0 HC hz0
              generalize xs.length = nn at *
              subst hn0
              go_wp2_with (first
                | (at_builtin; refine wpList_run_appF rfl (.tmp 48) (.tmp 50) 22 rfl rfl rfl hrun ?_)
                | (go_at_call 11; refine HO.out.mono ?_; rintro e w5 ⟨g, u, rfl, hA⟩; have HA := Lib.hid hA; have HM5 := Lib.hid (HLOW.out.trans hA.mods (fun _ h => nomatch h)); unfold ptr; clear hA)
                | (go_at_call 8; refine (HOL.out _ HA.out.mods).mono ?_; rintro e w6 ⟨rfl, hm⟩; have HF6 := Lib.hid (HA.out.fld.low hm); have HM6 := Lib.hid (HM5.out.trans hm (fun _ h => nomatch h)); clear hm)
                | (go_at_call 6; refine (HFR.out _ _ _ HF6.out).mono ?_; rintro e w7 ⟨rfl, hm⟩; have HM7 := Lib.hid ((HM6.out.trans hm (fun _ h => nomatch h)).alloc (.cells #[.int .i64 0, .int .i64 0, .bool false, .bool false] 25)); unfold howV; (try unfold noH); clear hm)
                | (go_at_call 9; refine (known_12 _).mono ?_; rintro e w8 ⟨rfl, hm⟩; have HM8 := Lib.hid (HM7.out.trans hm (fun _ h => nomatch h)); clear hm))
              go_ret
              exact ⟨rfl, HM8.out.below⟩
            · have hm2 : decide (m < 1) = false := decide_eq_false hm1
              rw [show lenR (minN m) ns true = (⟨2, 0, false, false⟩, 0) by rw [hnz.2 hn0, lenR_ch hm1]] at HFR
              unfold HAns at HFR
              clear hm1 hnz HLF HOF HWG HH0 HC hz0
              generalize xs.length = nn at *
              subst hn0
              go_wp2_with (first
                | (at_builtin; refine wpList_run_appF rfl (.tmp 48) (.tmp 50) 22 rfl rfl rfl hrun ?_)
                | (go_at_call 11; refine HO.out.mono ?_; rintro e w5 ⟨g, u, rfl, hA⟩; have HA := Lib.hid hA; have HM5 := Lib.hid (HLOW.out.trans hA.mods (fun _ h => nomatch h)); unfold ptr; clear hA)
                | (go_at_call 8; refine (HOL.out _ HA.out.mods).mono ?_; rintro e w6 ⟨rfl, hm⟩; have HF6 := Lib.hid (HA.out.fld.low hm); have HM6 := Lib.hid (HM5.out.trans hm (fun _ h => nomatch h)); clear hm)
                | (go_at_call 6; refine (HFR.out _ _ _ HF6.out).mono ?_; rintro e w7 ⟨rfl, hm⟩; have HM7 := Lib.hid ((HM6.out.trans hm (fun _ h => nomatch h)).alloc (.cells #[.int .i64 2, .int .i64 0, .bool false, .bool false] 25)); unfold howV; (try unfold noH); clear hm)
                | (go_at_call 9; refine (known_12 _).mono ?_; rintro e w8 ⟨rfl, hm⟩; have HM8 := Lib.hid (HM7.out.trans hm (fun _ h => nomatch h)); clear hm))
              go_ret
              exact ⟨rfl, HM8.out.below⟩
          · have hz0 : decide ((0 : Int) < (xs.length : Int)) = true := decide_eq_true (by omega)
            rw [lenR_400 (.inl fun h => hn0 (hnz.1 h))] at HFR
            unfold HAns at HFR
            clear hnz HLF HOF HWG HH0 HC hz0
            generalize xs.length = nn at *
            go_wp2_with (first
              | (at_builtin; refine wpList_run_appF rfl (.tmp 48) (.tmp 50) 22 rfl rfl rfl hrun ?_)
              | (go_at_call 11; refine HO.out.mono ?_; rintro e w5 ⟨g, u, rfl, hA⟩; have HA := Lib.hid hA; have HM5 := Lib.hid (HLOW.out.trans hA.mods (fun _ h => nomatch h)); unfold ptr; clear hA)
              | (go_at_call 8; refine (HOL.out _ HA.out.mods).mono ?_; rintro e w6 ⟨rfl, hm⟩; have HF6 := Lib.hid (HA.out.fld.low hm); have HM6 := Lib.hid (HM5.out.trans hm (fun _ h => nomatch h)); clear hm)
              | (go_at_call 6; refine (HFR.out _ _ _ HF6.out).mono ?_; rintro e w7 ⟨rfl, hm⟩; have HM7 := Lib.hid ((HM6.out.trans hm (fun _ h => nomatch h)).alloc (.cells #[.int .i64 0, .int .i64 0, .bool false, .bool false] 25)); unfold howV; (try unfold noH); clear hm)
              | (go_at_call 9; refine (known_12 _).mono ?_; rintro e w8 ⟨rfl, hm⟩; have HM8 := Lib.hid (HM7.out.trans hm (fun _ h => nomatch h)); clear hm))
            go_ret
            exact ⟨rfl, HM8.out.below⟩
        | false =>
          have HGL := Lib.hid (show Gt W 35 2 (lenF ns (if false = true then [chunkedB] else [])).length (encF (lenF ns (if false = true then [chunkedB] else []))) (.slice va (len0 ns).length vc) wr by rw [if_neg (by simp), lenF_none]; exact HG2.out)
          have HO := Lib.hid (show Calls Tryz.prog 11 #[.slice va (len0 ns).length vc] wr (fun e w' => ∃ g u, e = .returned (ptr g) ∧ Made 63 wr g u (lenF ns (if false = true then [chunkedB] else [])) w') from by have h := of_a _ (lenF ns (if false = true then [chunkedB] else [])) wr (FsAt.of_row HGL.out.row) (wgt_len (HWG.out false)) (wgt_small (HWG.out false)); rw [HOF.out false] at h; exact h)
          have HOL := Lib.hid (fun w' (hm : Mods [] wr w') => of_l m _ (lenF ns (if false = true then [chunkedB] else [])) w' ((FsAt.of_row HGL.out.row).low hm) (HWG.out false))
          have HFR := Lib.hid (fun (g : Nat) (v : Value) (w : World) (h : Fld 63 w g v (lenF ns (if false = true then [chunkedB] else []))) => of_f (m := m) (FP.of_fld h) (by have h2 := wgt_lite (HWG.out false); rw [HOF.out false] at h2; exact h2))
          rw [HLF.out false] at HFR
          have HLOW := Lib.hid HGL.out.low
          by_cases hn0 : xs.length = 0
          · have hz0 : ((xs.length : Int) == 0) = true := beq_iff_eq.2 (by omega)
            rw [show lenR (minN m) ns false = (⟨0, 0, decide (minN m = 0), false⟩, 0) by rw [hnz.2 hn0]; exact lenR_no m] at HFR
            unfold HAns at HFR
            generalize decide (minN m = 0) = z at *
            clear hnz hn0 HLF HOF HWG HH0 HC
            generalize xs.length = nn at *
            generalize sameN ns = rs at *
            go_wp2_with (first
              | (go_at_call 11; refine HO.out.mono ?_; rintro e w5 ⟨g, u, rfl, hA⟩; have HA := Lib.hid hA; have HM5 := Lib.hid (HLOW.out.trans hA.mods (fun _ h => nomatch h)); unfold ptr; clear hA)
              | (go_at_call 8; refine (HOL.out _ HA.out.mods).mono ?_; rintro e w6 ⟨rfl, hm⟩; have HF6 := Lib.hid (HA.out.fld.low hm); have HM6 := Lib.hid (HM5.out.trans hm (fun _ h => nomatch h)); clear hm)
              | (go_at_call 6; refine (HFR.out _ _ _ HF6.out).mono ?_; rintro e w7 ⟨rfl, hm⟩; have HM7 := Lib.hid ((HM6.out.trans hm (fun _ h => nomatch h)).alloc (.cells #[.int .i64 0, .int .i64 0, .bool z, .bool false] 25)); unfold howV; (try unfold noH); clear hm)
              | (go_at_call 9; refine (known_12 _).mono ?_; rintro e w8 ⟨rfl, hm⟩; have HM8 := Lib.hid (HM7.out.trans hm (fun _ h => nomatch h)); clear hm))
            go_ret
            exact ⟨rfl, HM8.out.below⟩
          · have hz0 : ((xs.length : Int) == 0) = false := beq_eq_false_iff_ne.2 (by omega)
            have hne : ns ≠ [] := fun h => hn0 (hnz.1 h)
            cases hsm : sameN ns with
            | false =>
              rw [lenR_un hne hsm] at HFR
              unfold HAns at HFR
              clear hnz hn0 HLF HOF HWG HH0 hne hsm HC
              generalize xs.length = nn at *
              go_wp2_with (first
                | (go_at_call 11; refine HO.out.mono ?_; rintro e w5 ⟨g, u, rfl, hA⟩; have HA := Lib.hid hA; have HM5 := Lib.hid (HLOW.out.trans hA.mods (fun _ h => nomatch h)); unfold ptr; clear hA)
                | (go_at_call 8; refine (HOL.out _ HA.out.mods).mono ?_; rintro e w6 ⟨rfl, hm⟩; have HF6 := Lib.hid (HA.out.fld.low hm); have HM6 := Lib.hid (HM5.out.trans hm (fun _ h => nomatch h)); clear hm)
                | (go_at_call 6; refine (HFR.out _ _ _ HF6.out).mono ?_; rintro e w7 ⟨rfl, hm⟩; have HM7 := Lib.hid ((HM6.out.trans hm (fun _ h => nomatch h)).alloc (.cells #[.int .i64 0, .int .i64 0, .bool false, .bool false] 25)); unfold howV; (try unfold noH); clear hm)
                | (go_at_call 9; refine (known_12 _).mono ?_; rintro e w8 ⟨rfl, hm⟩; have HM8 := Lib.hid (HM7.out.trans hm (fun _ h => nomatch h)); clear hm))
              go_ret
              exact ⟨rfl, HM8.out.below⟩
            | true =>
              have hpos : 0 < xs.length := by omega
              obtain ⟨b, o, rfl, hx0⟩ := HC.out 0 hpos
              have hh0 := HH0.out hpos
              obtain ⟨x0, hxx0⟩ : ∃ x, x = xs[0]'hpos := ⟨_, rfl⟩
              rw [← hxx0] at hx0 hh0
              rw [Nat.add_zero] at hx0
              clear hxx0
              obtain ⟨q, hq0, hq1⟩ := and_maskK x0 4095 (by omega)
              rw [show ((4095 : Nat) : Int) = 4095 from rfl] at hq0
              rw [show nOf x0 = q by unfold nOf; rw [hq0]; rfl] at hh0
              by_cases hbig : 2048 < q
              · have hb2 : decide ((2048 : Int) < (q : Int)) = true := decide_eq_true (by omega)
                rw [lenR_big hne hsm (by rw [hh0]; exact hbig)] at HFR
                unfold HAns at HFR
                clear hnz hn0 HLF HOF HWG HH0 hne hsm hh0 hbig HC
                generalize xs.length = nn at *
                go_wp2_with (first
                  | (go_at_call 11; refine HO.out.mono ?_; rintro e w5 ⟨g, u, rfl, hA⟩; have HA := Lib.hid hA; have HM5 := Lib.hid (HLOW.out.trans hA.mods (fun _ h => nomatch h)); unfold ptr; clear hA)
                  | (go_at_call 8; refine (HOL.out _ HA.out.mods).mono ?_; rintro e w6 ⟨rfl, hm⟩; have HF6 := Lib.hid (HA.out.fld.low hm); have HM6 := Lib.hid (HM5.out.trans hm (fun _ h => nomatch h)); clear hm)
                  | (go_at_call 6; refine (HFR.out _ _ _ HF6.out).mono ?_; rintro e w7 ⟨rfl, hm⟩; have HM7 := Lib.hid ((HM6.out.trans hm (fun _ h => nomatch h)).alloc (.cells #[.int .i64 0, .int .i64 0, .bool false, .bool false] 25)); have d0 := cell_mods hx0 HM7.out (by simp); unfold howV; (try unfold noH); clear hm)
                  | (go_at_call 9; refine (known_12 _).mono ?_; rintro e w8 ⟨rfl, hm⟩; have HM8 := Lib.hid (HM7.out.trans hm (fun _ h => nomatch h)); clear hm))
                go_ret
                exact ⟨rfl, HM8.out.below⟩
              · have hb2 : decide ((2048 : Int) < (q : Int)) = false := decide_eq_false (by omega)
                rw [lenR_ok hne hsm (by rw [hh0]; exact hbig), hh0] at HFR
                unfold HAns at HFR
                generalize decide (minN m = 0) = z at *
                clear hnz hn0 HLF HOF HWG HH0 hne hsm hh0 hbig HC
                generalize xs.length = nn at *
                go_upto_region 26 with (first
                  | (go_at_call 11; refine HO.out.mono ?_; rintro e w5 ⟨g, u, rfl, hA⟩; have HA := Lib.hid hA; have HM5 := Lib.hid (HLOW.out.trans hA.mods (fun _ h => nomatch h)); unfold ptr; clear hA)
                  | (go_at_call 8; refine (HOL.out _ HA.out.mods).mono ?_; rintro e w6 ⟨rfl, hm⟩; have HF6 := Lib.hid (HA.out.fld.low hm); have HM6 := Lib.hid (HM5.out.trans hm (fun _ h => nomatch h)); clear hm)
                  | (go_at_call 6; refine (HFR.out _ _ _ HF6.out).mono ?_; rintro e w7 ⟨rfl, hm⟩; have HM7 := Lib.hid ((HM6.out.trans hm (fun _ h => nomatch h)).alloc (.cells #[.int .i64 1, .int .i64 (q : Int), .bool z, .bool false] 25)); have d0 := cell_mods hx0 HM7.out (by simp); unfold howV; (try unfold noH); clear hm)
                  | (go_at_call 9; refine (known_12 _).mono ?_; rintro e w8 ⟨rfl, hm⟩; have HM8 := Lib.hid (HM7.out.trans hm (fun _ h => nomatch h)); clear hm))
                obtain ⟨W8, hW8⟩ : ∃ W8, W8 = w7.alloc (.cells #[.int .i64 1, .int .i64 (q : Int), .bool z, .bool false] 25) := ⟨_, rfl⟩
                have hR := Row.new w7 25 #[.int .i64 1, .int .i64 (q : Int), .bool z, .bool false]
                have hM := HM7.out
                rw [← hW8] at hR hM d0 ⊢
                clear hW8
                have k0 : W8.cell? ⟨w7.heap.size, 0, none⟩ = some (.int .i64 1) := hR.cell 0
                have k1 : W8.cell? ⟨w7.heap.size, 1, none⟩ = some (.int .i64 (q : Int)) := hR.cell 1
                have HM := Lib.hid hM
                have HK := Lib.hid (fun w' => known_12 w')
                clear hR hM HM7
                have hqq : ((q : Int) == (q : Int)) = true := by simp
                go_region_held3 (fun w' => w'.cell? ⟨w7.heap.size, 0, none⟩ = some (.int .i64 1) ∧ w'.cell? ⟨w7.heap.size, 1, none⟩ = some (.int .i64 (q : Int)) ∧ w'.cell? ⟨b, o, none⟩ = some (.int .i64 x0)) (go_keep)
                  ((go_at_call 9; refine Calls.mono (HK.out _) ?_; rintro e w9 ⟨rfl, hm⟩; have h2 : Mods [] W8 w9 := (by first | exact hm | exact of_drewF hm); have k0' := cell_mods k0 h2 (by simp); have k1' := cell_mods k1 h2 (by simp); have d0' := cell_mods d0 h2 (by simp); have HM9 := Lib.hid (HM.out.trans h2 (fun _ h => nomatch h)); clear hm h2))
                all_goals
                  go_wp2
                  go_ret
                  exact ⟨rfl, HM9.out.below⟩

theorem own : ownKnob Tryz.prog.godebug = none := by kernel_rfl
theorem laidOut : laidOutB Tryz.prog = true := by kernel_rfl
set_option maxRecDepth 100000 in
theorem lifted (os : Os) (started : os.Started) (H : Type) (enc : TypeId × Value → H) :
    ReturnsInHanded {} Tryz.checked os 4 .any (fun w args => (Rows.framingLengthsSpec.pre enc Tryz.prog Tryz.f4 [] false w args ∧ laidMetH Tryz.prog Rows.framingLengthsRow.laid w) ∧ sizedMet enc Tryz.prog Tryz.f4 (OpenSpec.ofChange Rows.framingLengthsSpec) false w args)
      (Rows.framingLengthsSpec.post enc Tryz.prog Tryz.f4 false true false false) := by
  refine returnsInHanded_of_change_and (C := Tryz.checked) (X := fun w _ => laidMetH Tryz.prog Rows.framingLengthsRow.laid w) (fun _ _ _ hh h => h.of_heap hh) own started (by kernel_rfl) Tryz.func4
    (ChangeSpec.witness_shaped (enc := enc) (C := Tryz.checked) (os := os) (X := fun w _ => laidMetH Tryz.prog Rows.framingLengthsRow.laid w) false (World.laidAll Tryz.prog os Rows.framingLengthsRow.laid) #[.int .i64 0, .slice none 0 0, .bool false] 8 (World.laidAll_os _ _ _)
      (World.shaped_of_ZipB (by kernel_rfl) (by kernel_rfl)) (by kernel_rfl) (by kernel_rfl) (by kernel_rfl)
      (by rw [MakeChecks.laidMetH_plain _ _ _ (by kernel_rfl)]; exact laidMet_laidAll _ (by kernel_rfl) (by kernel_rfl))) ?_
  intro W base args ds gs before hval0 hW hcnd hsz0 hL _
  have hsz : (DataW.weightsEach Tryz.prog (Tryz.f4.params.toList ++ Rows.framingLengthsSpec.plain.varTypes Tryz.prog) (ds ++ gs)).all (· ≤ reachBytes) = true := hsz0
  have hval : ∀ (j : Nat) t v, Tryz.f4.params[j]? = some t → args[j]? = some v → Value.okWide Tryz.prog W .any base t v := hval0
  have hW' := hW
  obtain ⟨p, q, hA0, hV, rfl, hfz, hnd⟩ := hW
  have hA : DataW.TrodAll enc Tryz.prog W 0 (fun _ => true) true Tryz.f4.params.toList args.toList ds p := hA0
  rw [Tryz.params4] at hA hval hsz
  obtain ⟨v0, vs0, d0, ds0, p0, q0, hargs, rfl, rfl, h0, r0⟩ := trodAll_cons hA
  obtain ⟨v1, vs1, d1, ds1, p1, q1, rfl, rfl, rfl, h1, r1⟩ := trodAll_cons r0
  obtain ⟨v2, vs2, d2, ds2, p2, q2, rfl, rfl, rfl, h2, r2⟩ := trodAll_cons r1
  obtain ⟨rfl, rfl, rfl⟩ := trodAll_nil r2
  obtain rfl : args = #[v0, v1, v2] := by cases args; simp_all
  obtain ⟨rfl, rfl⟩ := trodVars_none hV
  obtain ⟨a0, rfl, rfl, rfl, w0⟩ := open_int Tryz.underlying3 (hval 0 3 v0 rfl rfl) h0
  have k1 := h1
  have lt1 : ∀ x ∈ p1, x.block < W.heap.size := by obtain ⟨m, hm⟩ := k1; exact DataW.trod_lt m _ _ _ hm
  obtain o1 := open_nums (hval 1 33 v1 rfl rfl) k1
  obtain ⟨a2, rfl, rfl, rfl⟩ := open_bool Tryz.underlying4 (hval 2 4 v2 rfl rfl) h2
  clear hA0 hval0 hsz0 hsz
  refine (walk W a0 w0 v1 o1 a2).mono fun e W' ⟨he, bel⟩ => ?_
  subst he
  exact ⟨_, rfl, _, _, _, [], _, [], hW', trodAll_mk1 (shut_bool Tryz.underlying4 _), (trodAll_cons_mk (shut_int Tryz.underlying3 w0) (trodAll_cons_mk (Below.trod laidOut (by kernel_rfl) (of_decide_eq_true (by kernel_rfl)) k1 bel lt1) (trodAll_cons_mk (shut_bool Tryz.underlying4 a2) trodAll_mk0))), rfl, bel.frame _, fun h => by cases h⟩

theorem over : Rows.framingLengthsRow.holds Tryz.pinned (OpenSpec.ofChange Rows.framingLengthsSpec) :=
  OpenClaim.holds_of_wide 4 Tryz.f4 rfl rfl rfl rfl rfl rfl rfl ⟨rfl, rfl, rfl, rfl, rfl⟩ rfl rfl rfl rfl rfl (by kernel_rfl) Tryz.func4 (by kernel_rfl)
    (of_decide_eq_true (by kernel_rfl)) (by unfold Func.isWrapper; first | (rw [if_pos (by decide +kernel)]; kernel_rfl) | (rw [if_neg (by decide +kernel)]; exact ⟨rfl, rfl⟩))
    (fun os started H enc _ => lifted os started H enc)

theorem said : Rows.FramingLengthsSaid := over
theorem plain (f : FuncId) (fn : Func) (hf : Tryz.pinned.checked.prog.funcNamed "usher/usherlaw12.FramingLengths" = some f) (hfn : Tryz.pinned.checked.prog.funcs[f]? = some fn) :
    false = Tryz.pinned.checked.prog.looks [] ∧ ∀ (j : Nat) t, fn.params[j]? = some t → Tryz.pinned.checked.prog.wantsStandIn t = false := by
  obtain rfl : f = 4 := Option.some.inj ((show Tryz.prog.funcNamed "usher/usherlaw12.FramingLengths" = some 4 by kernel_rfl).symm.trans hf) |>.symm
  obtain rfl : fn = Tryz.f4 := (Option.some.inj (Tryz.func4.symm.trans hfn)).symm
  refine ⟨by kernel_rfl, fun j t ht => ?_⟩
  rw [Tryz.params4] at ht
  have hm : t ∈ [3, 33, 4] := by simpa using Array.mem_of_getElem? ht
  simp only [List.mem_cons, List.mem_nil_iff, or_false] at hm
  rcases hm with rfl | rfl | rfl
  · exact (show Tryz.prog.wantsStandIn 3 = false by kernel_rfl)
  · exact (show Tryz.prog.wantsStandIn 33 = false by kernel_rfl)
  · exact (show Tryz.prog.wantsStandIn 4 = false by kernel_rfl)
theorem proved : Rows.FramingLengthsCardSaid :=
  Claim7.holds_tied_plain_at .later [] _ _ _ _ said (fun _ h => by cases h) (by kernel_rfl) (fun _ h => by cases h) framingLengths_row_tie rfl ⟨rfl, rfl⟩ (by kernel_rfl) rfl plain (by kernel_rfl)
end Go.Proofs.YtcliapfoimnkiaaGreatDoor.framingLengths
