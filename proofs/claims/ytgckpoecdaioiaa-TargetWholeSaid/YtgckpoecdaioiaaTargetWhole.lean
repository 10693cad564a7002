/- For every host and path, with http and the host ahead, in either size, the path is for the same: the law returns true. Condition: none. -/
import Derived.Test.YtgckpoecdaioiaaRows
import Derived.WalkKit
import Derived.ProofKit
import Derived.OpenShut
import Derived.ShutString
import Derived.ChangeOld
import Derived.Below
import Derived.SizedLaws
import Derived.Test.YtgckpoecdaioiaaTr11
import Derived.Test.YtgckpoecdaioiaaTs11
import Derived.Deep.CutBlock
namespace Go.Proofs.Ytgckpoecdaioiaa.targetWhole
open Go.ChangeShapes Go.WideShapes Go.ChangeAt Go.RowKit
open Go.ChangeMaps (open_string shut_string)
set_option linter.unusedVariables false

theorem tgt_split {a b : Tgt} {n m : Int} (h : ((a, n) : Tgt × Int) = (b, m)) : a = b ∧ n = m := by injection h with h1 h2; exact ⟨h1, h2⟩
theorem cat3 (a b c : ByteArray) : (a ++ b ++ c).data.toList = a.data.toList ++ b.data.toList ++ c.data.toList := by
  rw [ByteArray.data_append, ByteArray.data_append, Array.toList_append, Array.toList_append]
theorem size3 (a b c : ByteArray) : (a ++ b ++ c).size = a.size + b.size + c.size := by rw [ByteArray.size_append, ByteArray.size_append]

set_option maxRecDepth 100000 in
set_option maxHeartbeats 2000000 in
theorem walk (w : World) (h : ByteArray) (hh : h.size ≤ 140737488351232) (s : ByteArray) (hs : s.size ≤ 140737488351232) :
    Calls Try.prog 9 #[.string h, .string s] w fun e w' => e = .returned (.bool true) ∧ Below w.heap.size w w' := by
  by_cases hl : 150 < h.size + s.size
  · have hl2 : (150 : Int) < (h.size : Int) + (s.size : Int) := by omega
    go_enter Try.func9, Try.ntmps9
    go_wp2_with (go_at_call 13; refine (known_l _).mono ?_; rintro e w4 ⟨rfl, hm⟩; have M4 := Lib.hid hm; clear hm)
    go_ret
    exact ⟨rfl, M4.out.below⟩
  · have hl2 : decide ((150 : Int) < (h.size : Int) + (s.size : Int)) = false := decide_eq_false (by omega)
    by_cases h0 : s.size = 0
    · have e1 : ((s.size : Int) == 0) = true := by rw [h0]; rfl
      go_enter Try.func9, Try.ntmps9
      go_wp2_with (go_at_call 13; refine (known_l _).mono ?_; rintro e w4 ⟨rfl, hm⟩; have M4 := Lib.hid hm; clear hm)
      go_ret
      exact ⟨rfl, M4.out.below⟩
    · have e1 : ((s.size : Int) == 0) = false := by rw [beq_eq_false_iff_ne]; omega
      have hp : 0 < s.size := by omega
      have hsa := slash_at hp
      by_cases h47 : s[0] = 47
      · have e2 : ((s[0].toNat : Int) != 47) = false := by rw [h47]; rfl
        rw [decide_eq_true h47] at hsa
        have hz : h.data.toList.length + s.data.toList.length ≤ 150 := by rw [len_data, len_data]; omega
        have hs150 : s.size ≤ 150 := by omega
        have hh150 : h.size ≤ 150 := by omega
        have hx1 := par_path (by rw [len_data]; exact hs150) hsa
        have HX2 := Lib.hid (fun hno => par_http (x := [104, 116, 116, 112, 58, 47, 47]) (h := h.data.toList) (s := s.data.toList) rfl (by decide +kernel) rfl hz hno hsa)
        have HX3 := Lib.hid (fun hno => par_http (x := [72, 84, 84, 80, 58, 47, 47]) (h := h.data.toList) (s := s.data.toList) rfl (by decide +kernel) rfl hz hno hsa)
        have HP1 := Lib.hid (fun w => parse_a ⟨#[71, 69, 84]⟩ s w (by decide) (by omega))
        have HP2 := Lib.hid (fun w => parse_a ⟨#[71, 69, 84]⟩ (⟨#[104, 116, 116, 112, 58, 47, 47]⟩ ++ h ++ s) w (by decide) (by rw [size3]; show 7 + _ + _ ≤ _; omega))
        have HP3 := Lib.hid (fun w => parse_a ⟨#[71, 69, 84]⟩ (⟨#[72, 84, 84, 80, 58, 47, 47]⟩ ++ h ++ s) w (by decide) (by rw [size3]; show 7 + _ + _ ≤ _; omega))
        unfold TAns at HP1 HP2 HP3
        rw [cat3] at HP2 HP3
        rw [show (⟨#[71, 69, 84]⟩ : ByteArray).data.toList = getL from rfl, hx1] at HP1
        rw [show (⟨#[71, 69, 84]⟩ : ByteArray).data.toList = getL from rfl] at HP2 HP3
        rw [show (⟨#[104, 116, 116, 112, 58, 47, 47]⟩ : ByteArray).data.toList = [104, 116, 116, 112, 58, 47, 47] from rfl] at HP2
        rw [show (⟨#[72, 84, 84, 80, 58, 47, 47]⟩ : ByteArray).data.toList = [72, 84, 84, 80, 58, 47, 47] from rfl] at HP3
        generalize parT getL ([104, 116, 116, 112, 58, 47, 47] ++ h.data.toList ++ s.data.toList) = r2 at HP2 HX2
        generalize parT getL ([72, 84, 84, 80, 58, 47, 47] ++ h.data.toList ++ s.data.toList) = r3 at HP3 HX3
        obtain ⟨⟨f2, a2, p2, q2⟩, m2⟩ := r2
        obtain ⟨⟨f3, a3, p3, q3⟩, m3⟩ := r3
        obtain ⟨⟨f1, a1, p1, q1⟩, m1, hr1⟩ : ∃ t m, orgF 1 noB s.data.toList = (t, m) := ⟨_, _, rfl⟩
        rw [hr1] at HP1
        have HR1 := Lib.hid hr1
        simp only [Tgt.cells] at HP1 HP2 HP3
        have HH := Lib.hid (fun w => host_a h w (by omega))
        clear hr1 hx1 hz h47 hsa h0 hl hh hs
        go_enter Try.func9, Try.ntmps9
        go_wp2_with fail
        refine (HP1.out _).mono ?_
        rintro e w1 ⟨rfl, hm⟩
        have M1 := Lib.hid hm
        clear hm
        go_wp2_with fail
        refine (HP2.out _).mono ?_
        rintro e w2 ⟨rfl, hm⟩
        have M2 := Lib.hid (M1.out.on (((Mods.refl [] w1).alloc _).on hm))
        have R2 := Lib.hid ((Row.new w1 23 (⟨f1, a1, p1, q1⟩ : Tgt).cells).mods hm (by simp))
        clear hm
        go_wp2_with fail
        refine (HP3.out _).mono ?_
        rintro e w3 ⟨rfl, hm⟩
        have M3 := Lib.hid (M2.out.on (((Mods.refl [] w2).alloc _).on hm))
        have R3 := Lib.hid ((R2.out.alloc _).mods hm (by simp))
        have S3 := Lib.hid ((Row.new w2 23 (⟨f2, a2, p2, q2⟩ : Tgt).cells).mods hm (by simp))
        clear hm R2
        go_upto_region 6 with fail
        obtain ⟨w4, hw4⟩ : ∃ w4, w4 = w3.alloc (.cells #[.int .i64 f3, .string a3, .string p3, .string q3] 23) := ⟨_, rfl⟩
        obtain ⟨b1, hb1⟩ : ∃ b1, b1 = w1.heap.size := ⟨_, rfl⟩
        obtain ⟨b2, hb2⟩ : ∃ b2, b2 = w2.heap.size := ⟨_, rfl⟩
        obtain ⟨b3, hb3⟩ : ∃ b3, b3 = w3.heap.size := ⟨_, rfl⟩
        have RA := Lib.hid (show Row w4 b1 23 (⟨f1, a1, p1, q1⟩ : Tgt).cells by rw [hw4, hb1]; exact R3.out.alloc _)
        have RB := Lib.hid (show Row w4 b2 23 (⟨f2, a2, p2, q2⟩ : Tgt).cells by rw [hw4, hb2]; exact S3.out.alloc _)
        have RC := Lib.hid (show Row w4 b3 23 (⟨f3, a3, p3, q3⟩ : Tgt).cells by rw [hw4, hb3]; exact Row.new w3 _ _)
        have M4 := Lib.hid (show Mods [] w w4 by rw [hw4]; exact M3.out.alloc _)
        rw [← hw4, ← hb1, ← hb2, ← hb3]
        clear hw4 hb1 hb2 hb3 M1 M2 M3 R3 S3
        go_wp2
        go_loop [11] (fun i => ∃ (k : Nat), k ≤ h.size ∧ i = .int .i64 k ∧ (h.data.toList.take k).all (fun c => !endB c) = true) (fun i => h.size - (intOf i).toNat)
        case atStart => exact ⟨0, Nat.zero_le _, rfl, rfl⟩
        case round =>
          obtain ⟨k, hk, rfl, hall⟩ := hrel
          have HA := Lib.hid hall
          clear hall
          by_cases hlt : k < h.size
          · by_cases h47 : h[k] = 47
            · have e3 : ((h[k].toNat : Int) == 47) = true := by rw [h47]; rfl
              clear h47
              go_wp2_with (go_at_call 13; refine (known_l _).mono ?_; rintro e w5 ⟨rfl, hm⟩; have M5 := Lib.hid (M4.out.on hm); clear hm)
              go_ret
              exact ⟨rfl, M5.out.below⟩
            · have e3 : ((h[k].toNat : Int) == 47) = false := by have := (b_no 47 h47).1; simpa using this
              by_cases h63 : h[k] = 63
              · have e4 : ((h[k].toNat : Int) == 63) = true := by rw [h63]; rfl
                clear h47 h63
                go_wp2_with (go_at_call 13; refine (known_l _).mono ?_; rintro e w5 ⟨rfl, hm⟩; have M5 := Lib.hid (M4.out.on hm); clear hm)
                go_ret
                exact ⟨rfl, M5.out.below⟩
              · have e4 : ((h[k].toNat : Int) == 63) = false := by have := (b_no 63 h63).1; simpa using this
                have HN := Lib.hid (take_all hlt HA.out (show (!endB h[k]) = true by unfold endB isC; simp [h47, h63]))
                clear h47 h63
                go_wp2
                go_round
                case rel => exact ⟨k + 1, by omega, by go_num, HN.out⟩
                case measure => simp [intOf]; omega
          · have hno : ∀ y ∈ h.data.toList, endB y = false := fun y hy => by have := List.all_eq_true.1 (take_end hlt HA.out) y hy; simpa using this
            have hx2 := HX2.out hno
            have hx3 := HX3.out hno
            clear hno HA
            cases hhost : hostL h.data.toList with
            | false =>
              rw [hhost] at HH
              rw [hhost, if_neg (by simp)] at hx2 hx3
              obtain ⟨-, rfl⟩ := tgt_split hx2
              obtain ⟨-, rfl⟩ := tgt_split hx3
              clear hx2 hx3 hhost
              go_wp2_with (first
                | (go_at_call 20; refine (HH.out _).mono ?_; rintro e w' ⟨rfl, rfl⟩)
                | (go_at_call 13; refine (known_l _).mono ?_; rintro e w5 ⟨rfl, hm⟩; have M5 := Lib.hid (M4.out.on hm); clear hm))
              go_ret
              exact ⟨rfl, M5.out.below⟩
            | true =>
              rw [hhost] at HH
              rw [hhost, if_pos rfl] at hx2 hx3
              have hr1 := HR1.out
              rcases orgF_cases s.data.toList with hc | ⟨p, q, hc⟩
              · rw [orgF_no hc] at hx2 hx3 hr1
                obtain ⟨-, rfl⟩ := tgt_split hx2
                obtain ⟨-, rfl⟩ := tgt_split hx3
                obtain ⟨-, rfl⟩ := tgt_split hr1
                clear hx2 hx3 hr1 hhost hc HR1 HX2 HX3
                go_wp2_with (first
                  | (go_at_call 20; refine (HH.out _).mono ?_; rintro e w' ⟨rfl, rfl⟩)
                  | (go_at_call 13; refine (known_l _).mono ?_; rintro e w5 ⟨rfl, hm⟩; have M5 := Lib.hid (M4.out.on hm); clear hm))
                go_ret
                exact ⟨rfl, M5.out.below⟩
              · rw [orgF_yes hc] at hx2 hx3 hr1
                obtain ⟨ha, rfl⟩ := tgt_split hx2
                obtain ⟨hb, rfl⟩ := tgt_split hx3
                obtain ⟨hd, rfl⟩ := tgt_split hr1
                simp only [Tgt.mk.injEq] at ha hb hd
                obtain ⟨rfl, ha1, ha2, ha3⟩ := ha
                obtain ⟨rfl, hb1, hb2, hb3⟩ := hb
                obtain ⟨rfl, hd1, hd2, hd3⟩ := hd
                obtain ⟨lh, hlh⟩ : ∃ lh, lh = ofL (lowL h.data.toList) := ⟨_, rfl⟩
                obtain ⟨pa, hpa⟩ : ∃ pa, pa = ofL p := ⟨_, rfl⟩
                obtain ⟨qa, hqa⟩ : ∃ qa, qa = ofL q := ⟨_, rfl⟩
                rw [← hlh] at ha1 hb1
                rw [← hpa] at ha2 hb2 hd2
                rw [← hqa] at ha3 hb3 hd3
                subst ha1 ha2 ha3 hb1 hb2 hb3 hd1 hd2 hd3
                clear hx2 hx3 hr1 hhost hc HR1 HX2 HX3 hlh hpa hqa
                obtain ⟨c0, c1, c2, c3, -, -, -, -⟩ := RA.out.facts
                obtain ⟨d0, d1, d2, d3, -, -, -, -⟩ := RB.out.facts
                obtain ⟨g0, g1, g2, g3, -, -, -, -⟩ := RC.out.facts
                go_wp2_with (first
                  | (go_at_call 20; refine (HH.out _).mono ?_; rintro e w' ⟨rfl, rfl⟩)
                  | (go_at_call 13; refine (known_l _).mono ?_; rintro e w5 ⟨rfl, hm⟩; have M5 := Lib.hid (M4.out.on hm); clear hm))
                go_ret
                exact ⟨rfl, M5.out.below⟩
      · have e2 : ((s[0].toNat : Int) != 47) = true := by have := (b_no 47 h47).2; simpa using this
        clear h47 hsa
        go_enter Try.func9, Try.ntmps9
        go_wp2_with (go_at_call 13; refine (known_l _).mono ?_; rintro e w4 ⟨rfl, hm⟩; have M4 := Lib.hid hm; clear hm)
        go_ret
        exact ⟨rfl, M4.out.below⟩

theorem own : ownKnob Try.prog.godebug = none := by kernel_rfl
theorem laidOut : laidOutB Try.prog = true := by kernel_rfl
set_option maxRecDepth 100000 in
theorem lifted (os : Os) (started : os.Started) (H : Type) (enc : TypeId × Value → H) :
    ReturnsInHanded {} Try.checked os 9 .any (Rows.targetWholeSpec.pre6 enc Try.prog Try.f9 Rows.targetWholeRow.domain false) (Rows.targetWholeSpec.post enc Try.prog Try.f9 false true false false) := by
  refine returnsInHanded_of_change_sized (C := Try.checked) own started (by kernel_rfl) Try.func9
    (ChangeSpec.witness6 (enc := enc) (C := Try.checked) false ⟨#[], #[.string ByteArray.empty, .string ByteArray.empty], []⟩ 8 (by kernel_rfl) (by kernel_rfl) (by kernel_rfl) (by kernel_rfl)) ?_
  intro W base args ds gs before hval0 hW hcnd hsz0 _
  have hsz : (DataW.weightsEach Try.prog (Try.f9.params.toList ++ Rows.targetWholeSpec.plain.varTypes Try.prog) (ds ++ gs)).all (· ≤ reachBytes) = true := hsz0
  have hval : ∀ (j : Nat) t v, Try.f9.params[j]? = some t → args[j]? = some v → Value.okWide Try.prog W .any base t v := hval0
  have hW' := hW
  obtain ⟨p, q, hA0, hV, rfl, hfz, hnd⟩ := hW
  have hA : DataW.TrodAll enc Try.prog W 0 (fun _ => true) true Try.f9.params.toList args.toList ds p := hA0
  rw [Try.params9] at hA hval hsz
  obtain ⟨v0, vs0, d0, ds0, p0, q0, hargs, rfl, rfl, h0, r0⟩ := trodAll_cons hA
  obtain ⟨v1, vs1, d1, ds1, p1, q1, rfl, rfl, rfl, h1, r1⟩ := trodAll_cons r0
  obtain ⟨rfl, rfl, rfl⟩ := trodAll_nil r1
  obtain rfl : args = #[v0, v1] := by cases args; simp_all
  obtain ⟨rfl, rfl⟩ := trodVars_none hV
  obtain ⟨a0, rfl, rfl, rfl, w0⟩ := open_string Try.underlying9 (hval 0 9 v0 rfl rfl) h0
  have g0 : a0.size ≤ 140737488351232 := sized_string hsz (j := 0) (t := 9) rfl rfl
  obtain ⟨a1, rfl, rfl, rfl, w1⟩ := open_string Try.underlying9 (hval 1 9 v1 rfl rfl) h1
  have g1 : a1.size ≤ 140737488351232 := sized_string hsz (j := 1) (t := 9) rfl rfl
  clear hA0 hval0 hsz0 hsz
  refine (walk W a0 g0 a1 g1).mono fun e W' ⟨he, bel⟩ => ?_
  subst he
  exact ⟨_, rfl, _, _, _, [], _, [], hW', trodAll_mk1 (shut_bool Try.underlying4 _), (trodAll_cons_mk (shut_string Try.underlying9 w0) (trodAll_cons_mk (shut_string Try.underlying9 w1) trodAll_mk0)), rfl, bel.frame _, fun h => by cases h⟩

theorem over : Rows.targetWholeRow.holds Try.pinned (OpenSpec.ofChange Rows.targetWholeSpec) :=
  OpenClaim.holds_of_wide 9 Try.f9 rfl rfl rfl rfl rfl rfl rfl ⟨rfl, rfl, rfl, rfl, rfl⟩ rfl rfl rfl rfl rfl (by kernel_rfl) Try.func9 (by kernel_rfl)
    (of_decide_eq_true (by kernel_rfl)) (by unfold Func.isWrapper; first | (rw [if_pos (by decide +kernel)]; kernel_rfl) | (rw [if_neg (by decide +kernel)]; exact ⟨rfl, rfl⟩))
    (fun os started H enc _ => lifted os started H enc)

theorem proved : Rows.TargetWholeSaid := over
end Go.Proofs.Ytgckpoecdaioiaa.targetWhole
