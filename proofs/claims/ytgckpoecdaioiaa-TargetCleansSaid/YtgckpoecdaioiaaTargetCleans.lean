/- For every path, the code's Clean answers as the document's, and what is clean stays as it is: the law returns true. Condition: none. -/
import Derived.Test.YtgckpoecdaioiaaRows
import Derived.WalkKit
import Derived.ProofKit
import Derived.OpenShut
import Derived.ShutString
import Derived.ChangeOld
import Derived.Below
import Derived.SizedLaws
import Derived.Test.YtgckpoecdaioiaaTr11
import Derived.Test.YtgckpoecdaioiaaTs11
namespace Go.Proofs.Ytgckpoecdaioiaa.targetCleans
open Go.ChangeShapes Go.WideShapes Go.ChangeAt Go.RowKit
open Go.ChangeMaps (open_string shut_string)
set_option linter.unusedVariables false

set_option maxRecDepth 10000 in
set_option maxHeartbeats 1000000 in
theorem walk (w : World) (s : ByteArray) (hs : s.size ≤ 140737488351232) :
    Calls Try.prog 6 #[.string s] w fun e w' => e = .returned (.bool true) ∧ Below w.heap.size w w' := by
  by_cases hl : 2000 < s.size
  · go_enter Try.func6, Try.ntmps6
    go_wp2
    go_ret
    exact ⟨rfl, Below.refl _ _⟩
  · have hz0 : s.size ≤ 2000 := by omega
    have HA := Lib.hid (fun w => clean_a s (by omega) w)
    have HB := Lib.hid (fun w => clean_r s (by omega) w)
    cases hc : clnL s.data.toList with
    | none =>
      rw [clnA_no hc] at HA HB
      clear hc hl
      go_enter Try.func6, Try.ntmps6
      go_wp2_with (first
        | (go_at_call 18; refine (HA.out _).mono ?_; rintro e w1 ⟨rfl, hm⟩; have M1 := Lib.hid hm; clear hm)
        | (go_at_call 19; refine (HB.out _).mono ?_; rintro e w2 ⟨rfl, hm⟩; have M2 := Lib.hid (M1.out.on hm); clear hm)
        | (go_at_call 13; refine (known_l _).mono ?_; rintro e w3 ⟨rfl, hm⟩; have M3 := Lib.hid (M2.out.on hm); clear hm))
      go_ret
      exact ⟨rfl, M3.out.below⟩
    | some d =>
      have hlen := clnL_len hc
      rw [len_data] at hlen
      have hcc := cln_cln hc
      rw [clnA_yes hc] at HA HB
      have hal : (ofL d).data.toList = d := ofL_list d
      have hasz : (ofL d).size ≤ s.size + 1 := by rw [ofL_size]; exact hlen
      obtain ⟨a, ha⟩ : ∃ a, a = ofL d := ⟨_, rfl⟩
      rw [← ha] at HA HB hal hasz
      have HC := Lib.hid (fun w => clean_a a (by omega) w)
      rw [hal, clnA_yes hcc, ← ha] at HC
      clear hc hl hlen hcc hal ha
      go_enter Try.func6, Try.ntmps6
      go_upto_region 7 with (first
        | (go_at_call 18; refine (HA.out _).mono ?_; rintro e w1 ⟨rfl, hm⟩; have M1 := Lib.hid hm; clear hm)
        | (go_at_call 19; refine (HB.out _).mono ?_; rintro e w2 ⟨rfl, hm⟩; have M2 := Lib.hid (M1.out.on hm); clear hm))
      go_wp2_with (first
        | (go_at_call 18; refine (HC.out _).mono ?_; rintro e w3 ⟨rfl, hm⟩; have M3 := Lib.hid (M2.out.on hm); clear hm)
        | (go_at_call 13; refine (known_l _).mono ?_; rintro e w4 ⟨rfl, hm⟩; have M4 := Lib.hid (M3.out.on hm); clear hm))
      go_ret
      exact ⟨rfl, M4.out.below⟩

theorem own : ownKnob Try.prog.godebug = none := by kernel_rfl
theorem laidOut : laidOutB Try.prog = true := by kernel_rfl
set_option maxRecDepth 100000 in
theorem lifted (os : Os) (started : os.Started) (H : Type) (enc : TypeId × Value → H) :
    ReturnsInHanded {} Try.checked os 6 .any (Rows.targetCleansSpec.pre6 enc Try.prog Try.f6 Rows.targetCleansRow.domain false) (Rows.targetCleansSpec.post enc Try.prog Try.f6 false true false false) := by
  refine returnsInHanded_of_change_sized (C := Try.checked) own started (by kernel_rfl) Try.func6
    (ChangeSpec.witness6 (enc := enc) (C := Try.checked) false ⟨#[], #[.string ByteArray.empty], []⟩ 8 (by kernel_rfl) (by kernel_rfl) (by kernel_rfl) (by kernel_rfl)) ?_
  intro W base args ds gs before hval0 hW hcnd hsz0 _
  have hsz : (DataW.weightsEach Try.prog (Try.f6.params.toList ++ Rows.targetCleansSpec.plain.varTypes Try.prog) (ds ++ gs)).all (· ≤ reachBytes) = true := hsz0
  have hval : ∀ (j : Nat) t v, Try.f6.params[j]? = some t → args[j]? = some v → Value.okWide Try.prog W .any base t v := hval0
  have hW' := hW
  obtain ⟨p, q, hA0, hV, rfl, hfz, hnd⟩ := hW
  have hA : DataW.TrodAll enc Try.prog W 0 (fun _ => true) true Try.f6.params.toList args.toList ds p := hA0
  rw [Try.params6] at hA hval hsz
  obtain ⟨v0, vs0, d0, ds0, p0, q0, hargs, rfl, rfl, h0, r0⟩ := trodAll_cons hA
  obtain ⟨rfl, rfl, rfl⟩ := trodAll_nil r0
  obtain rfl : args = #[v0] := by cases args; simp_all
  obtain ⟨rfl, rfl⟩ := trodVars_none hV
  obtain ⟨a0, rfl, rfl, rfl, w0⟩ := open_string Try.underlying9 (hval 0 9 v0 rfl rfl) h0
  have g0 : a0.size ≤ 140737488351232 := sized_string hsz (j := 0) (t := 9) rfl rfl
  clear hA0 hval0 hsz0 hsz
  refine (walk W a0 g0).mono fun e W' ⟨he, bel⟩ => ?_
  subst he
  exact ⟨_, rfl, _, _, _, [], _, [], hW', trodAll_mk1 (shut_bool Try.underlying4 _), (trodAll_cons_mk (shut_string Try.underlying9 w0) trodAll_mk0), rfl, bel.frame _, fun h => by cases h⟩

theorem over : Rows.targetCleansRow.holds Try.pinned (OpenSpec.ofChange Rows.targetCleansSpec) :=
  OpenClaim.holds_of_wide 6 Try.f6 rfl rfl rfl rfl rfl rfl rfl ⟨rfl, rfl, rfl, rfl, rfl⟩ rfl rfl rfl rfl rfl (by kernel_rfl) Try.func6 (by kernel_rfl)
    (of_decide_eq_true (by kernel_rfl)) (by unfold Func.isWrapper; first | (rw [if_pos (by decide +kernel)]; kernel_rfl) | (rw [if_neg (by decide +kernel)]; exact ⟨rfl, rfl⟩))
    (fun os started H enc _ => lifted os started H enc)

theorem proved : Rows.TargetCleansSaid := over
end Go.Proofs.Ytgckpoecdaioiaa.targetCleans
