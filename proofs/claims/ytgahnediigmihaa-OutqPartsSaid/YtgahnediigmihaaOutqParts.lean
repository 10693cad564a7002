/- For every list of texts, a piece of these parts is one piece of all their bytes: the law returns true. Condition: none. -/
import Derived.Test.YtgahnediigmihaaRows
import Derived.WalkKit
import Derived.ProofKit
import Derived.OpenShut
import Derived.ShutString
import Derived.ChangeOld
import Derived.Below
import Derived.SizedLaws
import Derived.Test.YtgahnediigmihaaOpenQ
import Derived.Test.YtgahnediigmihaaKnownQ
import Derived.Deep.RegionHeld3
import Derived.Deep.RegionWith
import Derived.Deep.DeepCutAuto
import Derived.Deep.CutBlock
namespace Go.Proofs.Ytgahnediigmihaa.outqParts
open Go.ChangeShapes Go.WideShapes Go.ChangeAt Go.RowKit
open Go.ChangeMaps (open_string shut_string)
set_option linter.unusedVariables false
set_option maxRecDepth 100000
set_option linter.unusedSimpArgs false
theorem wh_one (x W : Int) (h : x ≤ W) : wh [x] W = 1 := by simp [wh, h]
theorem wh_zero (x W : Int) (h : ¬ x ≤ W) : wh [x] W = 0 := by simp [wh, h]
/-- All bytes so far. -/
def All (W wr : World) (v : Value) (l : List Int) : Prop := wr.ownsRow 0 5 1 v l.length (bv l) ∧ Mods [] W wr ∧ ∀ k ∈ v.ownBlock.toList, W.heap.size ≤ k
theorem All.more {W w1 w2 : World} {v v' : Value} {l l' : List Int} {n : Nat} (h : All W w1 v l) (hn : n = (l ++ l').length) (ho : w2.ownsRow 0 5 1 v' n (bv (l ++ l'))) (hm : Mods v.ownBlock.toList w1 w2 ∧ (v'.ownBlock = v.ownBlock ∨ v'.ownBlock = some w1.heap.size)) : All W w2 v' (l ++ l') := by
  subst hn
  refine ⟨ho, h.2.1.trans hm.1 (fun k hk => .inr (h.2.2 k hk)), fun k hk => ?_⟩
  rcases hm.2 with e | e
  · rw [e] at hk; exact h.2.2 k hk
  · rw [e] at hk; have := h.2.1.size; simp at hk; omega
set_option maxHeartbeats 2000000 in
theorem walk (W : World) (v : Value) (ho : IsRows W v) :
    Calls Try.prog 6 #[v] W fun e w' => e = .returned (.bool true) ∧ Below W.heap.size W w' := by
  obtain ⟨A, rs, cap, rfl, hlm, hr⟩ := ho
  have hn := eql_qnil
  obtain ⟨i0, hi, hz, hs, hby⟩ := info_parts u8_info3
  have HI := Lib.hid (And.intro hi (And.intro hz (And.intro hs hby)))
  have HR := Lib.hid hr
  unfold maxLen at hlm
  clear hr hi hz hs hby
  go_enter Try.func6, Try.ntmps6
  go_wp2
  go_loopw [3, 4, 5] (fun n all i wr => ∃ k L : Nat, k ≤ rs.length ∧ k + L ≤ 6000 ∧ i = .int .i64 k ∧ n = .int .i64 ((k : Int) + (L : Int)) ∧ Hid (L = (flatR (rs.take k)).length ∧ All W wr all (flatR (rs.take k)))) (fun _ _ i _ => rs.length - (intOf i).toNat)
  case atStart => exact ⟨0, 0, by omega, by omega, rfl, rfl, Lib.hid ⟨rfl, World.ownsRow_nil _ _ _ _, Mods.refl _ _, by simp [Value.ownBlock]⟩⟩
  case round =>
    obtain ⟨k, L, hk, hkL, rfl, rfl, hd⟩ := hrel
    by_cases hlt : k < rs.length
    · have HRk := Lib.hid (HR.out k rs[k] (List.getElem?_eq_getElem hlt))
      obtain ⟨⟨bb, oo, rfl, hbb, hc⟩, _⟩ := HRk.out
      have HSN := Lib.hid (flatR_snoc rs k hlt)
      obtain ⟨r, hr⟩ : ∃ r, r = rs[k] := ⟨_, rfl⟩
      rw [← hr] at HRk hc HSN
      have c0 := cell_mods hc hd.out.2.2.1 (by simp)
      have hcap := HRk.out.2.2
      clear hr hc
      by_cases h1 : 6000 < r.l.length
      · go_wp2
        go_ret
        exact ⟨rfl, hd.out.2.2.1.below⟩
      · by_cases h2 : 6000 < k + L + 1 + r.l.length
        · have e1 : ¬ (6000 : Int) < (r.l.length : Int) := by omega
          have e2 : (6000 : Int) < (k : Int) + (L : Int) + 1 + (r.l.length : Int) := by omega
          go_wp2
          go_ret
          exact ⟨rfl, hd.out.2.2.1.below⟩
        · have e1 : ¬ (6000 : Int) < (r.l.length : Int) := by omega
          have e2 : ¬ (6000 : Int) < (k : Int) + (L : Int) + 1 + (r.l.length : Int) := by omega
          have HLE := Lib.hid (show (flatR (rs.take k)).length + r.l.length ≤ 1000000000 by have := hd.out.1; omega)
          have HAT := Lib.hid (HRk.out.2.1.mods hd.out.2.2.1)
          go_wp2_with (at_builtin; refine wpList_append_bytes _ rfl (.tmp 29) (.tmp 33) 28 rfl 5 i0 (.int .u8 0) Try.underlying28 HI.out.1 HI.out.2.1 HI.out.2.2.1 HI.out.2.2.2 rfl u4 (flatR (rs.take k)).length (flatR (rs.take k)) rfl hd.out.2.1 [] r.A r.l.length r.c r.l rfl rfl HAT.out HLE.out ?_; intro v2 w2 HO2 HM2)
          go_roundw
          case rel => exact ⟨k + 1, L + r.l.length, by omega, by omega, by go_num, by go_num, Lib.hid (by rw [HSN.out]; exact ⟨by rw [List.length_append]; have := hd.out.1; omega, hd.out.2.more (by rw [List.length_append]) HO2.out HM2.out⟩)⟩
          case measure => simp [intOf]; omega
    · have HK := Lib.hid (show rs.take k = rs from List.take_of_length_le (by omega))
      rw [HK.out] at hd
      obtain ⟨P, hP⟩ : ∃ P, P = flatR rs := ⟨_, rfl⟩
      have HP := Lib.hid hP
      rw [← hP] at hd
      obtain ⟨A2, c2, rfl, hc1, hc2⟩ := own_slice hd.out.2.1
      have hL := hd.out.1
      subst hL
      have hkn : k = rs.length := by omega
      have HD := Lib.hid hd.out.2
      clear hd hP hk hlt
      go_wp2_with fail
      refine (qnew_any wr).mono ?_
      rintro e w1 ⟨rfl, hq, hm⟩
      have Q1 := Lib.hid hq
      have M1 := Lib.hid (show Mods [] W w1 from HD.out.2.1.trans hm (by simp))
      have hAm := Lib.hid (own_mods HD.out.1 hm (by simp))
      have hWg := Lib.hid (HD.out.2.1.size)
      have HPA := Lib.hid ((parts_of (F := [wr.heap.size]) HR.out (by simpa using hWg.out)).mods (M1.out.more (by simp)))
      clear hq hm
      go_wp2_with fail
      refine (add_as w1 wr.heap.size [wr.heap.size] [] [] P [(P.length : Int)] 0 0 A rs.length cap rs 1 Q1.out HPA.out rfl (by unfold maxLen; omega) (by rw [HP.out]; rfl) (by simp) rfl (by omega) (by simp)).mono ?_
      rintro e w2 ⟨rfl, hd⟩
      obtain ⟨F2, q2, m2, n2⟩ := hd.out
      have Q2 := Lib.hid q2
      have M2 := Lib.hid (show Mods [] W w2 from M1.out.trans m2 (fun k hk => .inr (by simp at hk; have := hWg.out; omega)))
      have G2 := Lib.hid (show ∀ k ∈ F2, W.heap.size ≤ k from fun k hk => by
        rcases n2 k hk with h | h
        · simp at h; have := hWg.out; omega
        · have := M1.out.size; omega)
      have hL1 := Lib.hid (Q1.out.lt wr.heap.size (by simp))
      have O2 := Lib.hid (own_mods hAm.out m2 (fun b hb hb2 => by have := own_lt HD.out.1 b hb; simp at hb2; omega))
      clear hd q2 m2 n2
      go_wp2_with fail
      refine (qlen_any w2 wr.heap.size F2 P _ 0 0 Q2.out).mono ?_
      rintro e w' ⟨rfl, rfl⟩
      go_wp2_with fail
      refine (next_as w2 wr.heap.size P.length ((rs.length : Int) + (P.length : Int) + 1) F2 P [(P.length : Int)] P 0 0 Q2.out (by unfold clamp; exact List.take_of_length_le (by omega)) rfl).mono ?_
      rintro e w3 ⟨A3, c3, rfl, hd⟩
      have N3 := Lib.hid hd.out
      clear hd
      go_wp2_with fail
      refine (same_yes w3 A3 A2 P P.length P.length c3 c2 rfl rfl (N3.out.at0 (Mods.refl _ _)) (At.of_own (F := []) (own_mods O2.out N3.out.mods (by simp)) (by simp) Q2.out.rng) (by omega)).mono ?_
      rintro e w4 ⟨rfl, hm⟩
      have M4 := Lib.hid (show Mods [] w2 w4 from N3.out.mods.trans hm (by simp))
      clear hm
      go_wp2_with fail
      refine (left_as w4 wr.heap.size 1 F2 P [(P.length : Int)] [1] 0 0 (Q2.out.quiet M4.out) rfl rfl).mono ?_
      rintro e w5 ⟨A5, c5, rfl, hd⟩
      have N5 := Lib.hid hd.out
      have M5 := Lib.hid (show Mods [] w2 w5 from M4.out.trans hd.out.mods (by simp))
      clear hd
      go_wp2_with fail
      refine (ints_yes _ A5 (some ⟨w5.heap.size, 0, none⟩) [1] 1 1 c5 1 rfl rfl (N5.out.src ((Mods.refl _ _).alloc _)) (Src.nums w5 _ [1]) (by decide)).mono ?_
      rintro e w6 ⟨rfl, hm⟩
      have M6 := Lib.hid (show Mods [] w2 w6 from (M5.out.alloc _).trans hm (by simp))
      have M6W := Lib.hid (M2.out.trans M6.out (by simp))
      clear hm
      by_cases h1 : 1 < P.length
      · have e1 : (1 : Int) < (P.length : Int) := by omega
        obtain ⟨L, hL⟩ : ∃ L, P.length = L + 1 := ⟨P.length - 1, by omega⟩
        have HL := Lib.hid hL
        have b1 : L + 1 ≤ P.length := by omega
        have b2 : P.length ≤ L + 1 := by omega
        clear hL
        go_wp2_with fail
        refine (done_as w6 wr.heap.size L 0 ((P.length : Int) - 1) F2 P [(P.length : Int)] (P.drop L) [(P.length : Int)] [] 0 0 L 0 (Q2.out.quiet M6.out) (by unfold clamp; omega) (wh_zero _ _ (by omega)) rfl rfl (by omega) rfl rfl).mono ?_
        rintro e w7 ⟨A7, c7, rfl, hd⟩
        obtain ⟨⟨F7, q7, m7, n7, o7, b7⟩, -, h71, h72⟩ := hd.out
        have Q7 := Lib.hid q7
        have M7 := Lib.hid (show Mods [] W w7 from M6W.out.trans m7 (fun k hk => .inr (G2.out k hk)))
        have G7 := Lib.hid (show ∀ k ∈ F7, W.heap.size ≤ k from fun k hk => by
          rcases n7 k hk with h | h
          · exact G2.out k h
          · have := M6W.out.size; omega)
        clear hd q7 m7 n7 o7 b7
        go_wp2_with fail
        refine (done_as w7 wr.heap.size 1 1 ((rs.length : Int) + (P.length : Int)) F7 (P.drop L) [(P.length : Int)] [] [] [1] L 0 P.length 1 Q7.out (by unfold clamp; rw [List.length_drop]; omega) (wh_one _ _ (by omega)) (List.drop_of_length_le (by rw [List.length_drop]; omega)) rfl (by omega) rfl rfl).mono ?_
        rintro e w9 ⟨A9, c9, rfl, hd⟩
        obtain ⟨⟨F9, q9, m9, n9, o9, b9⟩, -, h91, h92⟩ := hd.out
        have Q9 := Lib.hid q9
        have M9 := Lib.hid (show Mods [] W w9 from M7.out.trans m9 (fun k hk => .inr (G7.out k hk)))
        have O9 := Lib.hid o9
        clear hd q9 m9 n9 o9 b9
        go_wp2_with fail
        refine (ints_yes _ A9 (some ⟨w9.heap.size, 0, none⟩) [1] 1 1 c9 1 rfl rfl ((O9.out.alloc _).src) (Src.nums w9 _ [1]) (by decide)).mono ?_
        rintro e w10 ⟨rfl, hm⟩
        have M10 := Lib.hid (show Mods [] w9 w10 from ((Mods.refl _ _).alloc _).trans hm (by simp))
        clear hm
        go_wp2_with fail
        refine (qlen_any w10 wr.heap.size F9 [] [] P.length 1 (Q9.out.quiet M10.out)).mono ?_
        rintro e w' ⟨rfl, rfl⟩
        go_wp2_with fail
        refine (known_any _).mono ?_
        rintro e w11 ⟨rfl, hm⟩
        have M11 := Lib.hid ((M9.out.trans M10.out (by simp)).trans hm (by simp))
        clear hm
        go_wp2
        go_ret
        exact ⟨rfl, M11.out.below⟩
      · have e1 : ¬ (1 : Int) < (P.length : Int) := by omega
        go_wp2_with fail
        refine (done_as w6 wr.heap.size P.length 1 ((rs.length : Int) + (P.length : Int)) F2 P [(P.length : Int)] [] [] [1] 0 0 P.length 1 (Q2.out.quiet M6.out) (by unfold clamp; omega) (wh_one _ _ (by omega)) (List.drop_of_length_le (Nat.le_refl _)) rfl (by omega) rfl rfl).mono ?_
        rintro e w9 ⟨A9, c9, rfl, hd⟩
        obtain ⟨⟨F9, q9, m9, n9, o9, b9⟩, -, h91, h92⟩ := hd.out
        have Q9 := Lib.hid q9
        have M9 := Lib.hid (show Mods [] W w9 from M6W.out.trans m9 (fun k hk => .inr (G2.out k hk)))
        have O9 := Lib.hid o9
        clear hd q9 m9 n9 o9 b9
        go_wp2_with fail
        refine (ints_yes _ A9 (some ⟨w9.heap.size, 0, none⟩) [1] 1 1 c9 1 rfl rfl ((O9.out.alloc _).src) (Src.nums w9 _ [1]) (by decide)).mono ?_
        rintro e w10 ⟨rfl, hm⟩
        have M10 := Lib.hid (show Mods [] w9 w10 from ((Mods.refl _ _).alloc _).trans hm (by simp))
        clear hm
        go_wp2_with fail
        refine (qlen_any w10 wr.heap.size F9 [] [] P.length 1 (Q9.out.quiet M10.out)).mono ?_
        rintro e w' ⟨rfl, rfl⟩
        go_wp2_with fail
        refine (known_any _).mono ?_
        rintro e w11 ⟨rfl, hm⟩
        have M11 := Lib.hid ((M9.out.trans M10.out (by simp)).trans hm (by simp))
        clear hm
        go_wp2
        go_ret
        exact ⟨rfl, M11.out.below⟩

theorem own : ownKnob Try.prog.godebug = none := by kernel_rfl
theorem laidOut : laidOutB Try.prog = true := by kernel_rfl
set_option maxRecDepth 100000 in
theorem lifted (os : Os) (started : os.Started) (H : Type) (enc : TypeId × Value → H) :
    ReturnsInHanded {} Try.checked os 6 .any (Rows.outqPartsSpec.pre6 enc Try.prog Try.f6 Rows.outqPartsRow.domain false) (Rows.outqPartsSpec.post enc Try.prog Try.f6 false true false false) := by
  refine returnsInHanded_of_change_sized (C := Try.checked) own started (by kernel_rfl) Try.func6
    (ChangeSpec.witness6 (enc := enc) (C := Try.checked) false ⟨#[], #[.slice none 0 0], []⟩ 8 (by kernel_rfl) (by kernel_rfl) (by kernel_rfl) (by kernel_rfl)) ?_
  intro W base args ds gs before hval0 hW hcnd hsz0 _
  have hsz : (DataW.weightsEach Try.prog (Try.f6.params.toList ++ Rows.outqPartsSpec.plain.varTypes Try.prog) (ds ++ gs)).all (· ≤ reachBytes) = true := hsz0
  have hval : ∀ (j : Nat) t v, Try.f6.params[j]? = some t → args[j]? = some v → Value.okWide Try.prog W .any base t v := hval0
  have hW' := hW
  obtain ⟨p, q, hA0, hV, rfl, hfz, hnd⟩ := hW
  have hA : DataW.TrodAll enc Try.prog W 0 (fun _ => true) true Try.f6.params.toList args.toList ds p := hA0
  rw [Try.params6] at hA hval hsz
  obtain ⟨v0, vs0, d0, ds0, p0, q0, hargs, rfl, rfl, h0, r0⟩ := trodAll_cons hA
  obtain ⟨rfl, rfl, rfl⟩ := trodAll_nil r0
  obtain rfl : args = #[v0] := by cases args; simp_all
  obtain ⟨rfl, rfl⟩ := trodVars_none hV
  have k0 := h0
  have lt0 : ∀ x ∈ p0, x.block < W.heap.size := by obtain ⟨m, hm⟩ := k0; exact DataW.trod_lt m _ _ _ hm
  obtain o0 := open_rows (hval 0 43 v0 rfl rfl) k0 (fun n hn => by simpa using List.all_eq_true.1 hsz n (DataW.weights_mem_each (j := 0) (t := 43) rfl rfl n hn))
  clear hA0 hval0 hsz0 hsz
  refine (walk W v0 o0).mono fun e W' ⟨he, bel⟩ => ?_
  subst he
  exact ⟨_, rfl, _, _, _, [], _, [], hW', trodAll_mk1 (shut_bool Try.underlying4 _), (trodAll_cons_mk (Below.trod laidOut (by kernel_rfl) (of_decide_eq_true (by kernel_rfl)) k0 bel lt0) trodAll_mk0), rfl, bel.frame _, fun h => by cases h⟩

theorem over : Rows.outqPartsRow.holds Try.pinned (OpenSpec.ofChange Rows.outqPartsSpec) :=
  OpenClaim.holds_of_wide 6 Try.f6 rfl rfl rfl rfl rfl rfl rfl ⟨rfl, rfl, rfl, rfl, rfl⟩ rfl rfl rfl rfl rfl (by kernel_rfl) Try.func6 (by kernel_rfl)
    (of_decide_eq_true (by kernel_rfl)) (by unfold Func.isWrapper; first | (rw [if_pos (by decide +kernel)]; kernel_rfl) | (rw [if_neg (by decide +kernel)]; exact ⟨rfl, rfl⟩))
    (fun os started H enc _ => lifted os started H enc)

theorem proved : Rows.OutqPartsSaid := over
end Go.Proofs.Ytgahnediigmihaa.outqParts
