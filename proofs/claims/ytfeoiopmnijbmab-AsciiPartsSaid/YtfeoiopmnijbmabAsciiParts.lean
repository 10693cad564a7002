/- For every two texts, joined they are a token (a value) just if both are, a text of no byte is no token and is a value: the law returns true. Condition: none. -/
import Derived.Test.YtfeoiopmnijbmabRows
import Derived.WalkKit
import Derived.ProofKit
import Derived.OpenShut
import Derived.ShutString
import Derived.ChangeOld
import Derived.Below
import Derived.SizedLaws
import Derived.Test.YtfeoiopmnijbmabKnown
import Derived.Test.YtfeoiopmnijbmabVal
namespace Go.Proofs.Ytfeoiopmnijbmab.asciiParts
open Go.ChangeShapes Go.WideShapes Go.ChangeAt Go.RowKit
open Go.ChangeMaps (open_string shut_string)
set_option linter.unusedVariables false

theorem append_list (a b : ByteArray) : (a ++ b).data.toList = a.data.toList ++ b.data.toList := by simp [ByteArray.data_append]
theorem append_size (a b : ByteArray) : (a ++ b).size = a.size + b.size := by
  have := congrArg List.length (append_list a b)
  rw [List.length_append] at this; exact this
theorem tokL_append {a b : ByteArray} (ha : 0 < a.size) (hb : 0 < b.size) : tokL (a ++ b).data.toList = (tokL a.data.toList && tokL b.data.toList) := by
  have h1 : a.data.toList.isEmpty = false := by rw [← ByteArray.toList_eq]; exact (emp_no ha).1
  have h2 : b.data.toList.isEmpty = false := by rw [← ByteArray.toList_eq]; exact (emp_no hb).1
  unfold tokL
  rw [append_list, List.all_append, h1, h2]
  have h3 : (a.data.toList ++ b.data.toList).isEmpty = false := by
    cases h : a.data.toList with
    | nil => rw [h] at h1; simp at h1
    | cons x r => rfl
  rw [h3]; simp
theorem valL_append (a b : ByteArray) : valL (a ++ b).data.toList = (valL a.data.toList && valL b.data.toList) := by
  unfold valL; rw [append_list, List.all_append]

theorem tok_of (s : ByteArray) (w : World) (hs : s.size ≤ maxLen) (x : Bool) (h : tokL s.data.toList = x) : Calls Try.prog 5 #[.string s] w fun e w' => e = .returned (.bool x) ∧ w = w' :=
  (istok_a s w hs).mono fun e w' ⟨he, hw⟩ => ⟨by rw [he, h], hw⟩
theorem val_of (s : ByteArray) (w : World) (hs : s.size ≤ maxLen) (x : Bool) (h : valL s.data.toList = x) : Calls Try.prog 6 #[.string s] w fun e w' => e = .returned (.bool x) ∧ w = w' :=
  (isval_a s w hs).mono fun e w' ⟨he, hw⟩ => ⟨by rw [he, h], hw⟩

set_option maxRecDepth 10000 in
set_option maxHeartbeats 2000000 in
theorem walk (a : ByteArray) (ha' : a.size ≤ 140737488351232) (b : ByteArray) (hb' : b.size ≤ 140737488351232) (w : World) :
    Calls Try.prog 3 #[.string a, .string b] w fun e w' => e = .returned (.bool true) ∧ Below w.heap.size w w' := by
  have HA := Lib.hid (show a.size ≤ maxLen by unfold maxLen; omega)
  have HB := Lib.hid (show b.size ≤ maxLen by unfold maxLen; omega)
  have HAB := Lib.hid (show (a ++ b).size ≤ maxLen by rw [append_size]; unfold maxLen; omega)
  by_cases hl : a.size + b.size ≤ 2000
  · obtain ⟨va, hva⟩ : ∃ x, valL a.data.toList = x := ⟨_, rfl⟩
    obtain ⟨vb, hvb⟩ : ∃ x, valL b.data.toList = x := ⟨_, rfl⟩
    have HVA := Lib.hid hva
    have HVB := Lib.hid hvb
    have HVAB := Lib.hid (show valL (a ++ b).data.toList = (va && vb) by rw [valL_append, hva, hvb])
    clear hva hvb
    rcases (by omega : a.size = 0 ∨ (0 < a.size ∧ b.size = 0) ∨ (0 < a.size ∧ 0 < b.size)) with h0 | ⟨h0, h1⟩ | ⟨h0, h1⟩
    · have e0 := emp_yes h0
      go_enter Try.func3, Try.ntmps3
      go_wp2_with fail
      refine (val_of _ _ HAB.out _ HVAB.out).mono ?_
      rintro e w' ⟨rfl, rfl⟩
      go_wp2_with fail
      refine (val_of _ _ HA.out _ HVA.out).mono ?_
      rintro e w' ⟨rfl, rfl⟩
      cases va
      · go_wp2_with fail
        refine (tok_of _ _ (by unfold maxLen; decide) false rfl).mono ?_
        rintro e w' ⟨rfl, rfl⟩
        go_wp2_with fail
        refine (val_of _ _ (by unfold maxLen; decide) true rfl).mono ?_
        rintro e w' ⟨rfl, rfl⟩
        go_wp2_with fail
        refine (known_a _).mono ?_
        rintro e w1 ⟨rfl, hd⟩
        have H1 := Lib.hid hd
        clear hd
        go_wp2
        go_ret
        exact ⟨rfl, H1.out⟩
      · go_wp2_with fail
        refine (val_of _ _ HB.out _ HVB.out).mono ?_
        rintro e w' ⟨rfl, rfl⟩
        cases vb
        all_goals
          go_wp2_with fail
          refine (tok_of _ _ (by unfold maxLen; decide) false rfl).mono ?_
          rintro e w' ⟨rfl, rfl⟩
          go_wp2_with fail
          refine (val_of _ _ (by unfold maxLen; decide) true rfl).mono ?_
          rintro e w' ⟨rfl, rfl⟩
          go_wp2_with fail
          refine (known_a _).mono ?_
          rintro e w1 ⟨rfl, hd⟩
          have H1 := Lib.hid hd
          clear hd
          go_wp2
          go_ret
          exact ⟨rfl, H1.out⟩
    · have e0 := emp_yes h1
      obtain ⟨e1, e2⟩ := emp_no h0
      go_enter Try.func3, Try.ntmps3
      go_wp2_with fail
      refine (val_of _ _ HAB.out _ HVAB.out).mono ?_
      rintro e w' ⟨rfl, rfl⟩
      go_wp2_with fail
      refine (val_of _ _ HA.out _ HVA.out).mono ?_
      rintro e w' ⟨rfl, rfl⟩
      cases va
      · go_wp2_with fail
        refine (tok_of _ _ (by unfold maxLen; decide) false rfl).mono ?_
        rintro e w' ⟨rfl, rfl⟩
        go_wp2_with fail
        refine (val_of _ _ (by unfold maxLen; decide) true rfl).mono ?_
        rintro e w' ⟨rfl, rfl⟩
        go_wp2_with fail
        refine (known_a _).mono ?_
        rintro e w1 ⟨rfl, hd⟩
        have H1 := Lib.hid hd
        clear hd
        go_wp2
        go_ret
        exact ⟨rfl, H1.out⟩
      · go_wp2_with fail
        refine (val_of _ _ HB.out _ HVB.out).mono ?_
        rintro e w' ⟨rfl, rfl⟩
        cases vb
        all_goals
          go_wp2_with fail
          refine (tok_of _ _ (by unfold maxLen; decide) false rfl).mono ?_
          rintro e w' ⟨rfl, rfl⟩
          go_wp2_with fail
          refine (val_of _ _ (by unfold maxLen; decide) true rfl).mono ?_
          rintro e w' ⟨rfl, rfl⟩
          go_wp2_with fail
          refine (known_a _).mono ?_
          rintro e w1 ⟨rfl, hd⟩
          have H1 := Lib.hid hd
          clear hd
          go_wp2
          go_ret
          exact ⟨rfl, H1.out⟩
    · obtain ⟨ta, hta⟩ : ∃ x, tokL a.data.toList = x := ⟨_, rfl⟩
      obtain ⟨tb, htb⟩ : ∃ x, tokL b.data.toList = x := ⟨_, rfl⟩
      have HTA := Lib.hid hta
      have HTB := Lib.hid htb
      have HTAB := Lib.hid (show tokL (a ++ b).data.toList = (ta && tb) by rw [tokL_append h0 h1, hta, htb])
      clear hta htb
      obtain ⟨e1, e2⟩ := emp_no h0
      obtain ⟨e3, e4⟩ := emp_no h1
      go_enter Try.func3, Try.ntmps3
      go_wp2_with fail
      refine (tok_of _ _ HAB.out _ HTAB.out).mono ?_
      rintro e w' ⟨rfl, rfl⟩
      go_wp2_with fail
      refine (tok_of _ _ HA.out _ HTA.out).mono ?_
      rintro e w' ⟨rfl, rfl⟩
      cases ta
      · go_wp2_with fail
        refine (val_of _ _ HAB.out _ HVAB.out).mono ?_
        rintro e w' ⟨rfl, rfl⟩
        go_wp2_with fail
        refine (val_of _ _ HA.out _ HVA.out).mono ?_
        rintro e w' ⟨rfl, rfl⟩
        cases va
        · go_wp2_with fail
          refine (tok_of _ _ (by unfold maxLen; decide) false rfl).mono ?_
          rintro e w' ⟨rfl, rfl⟩
          go_wp2_with fail
          refine (val_of _ _ (by unfold maxLen; decide) true rfl).mono ?_
          rintro e w' ⟨rfl, rfl⟩
          go_wp2_with fail
          refine (known_a _).mono ?_
          rintro e w1 ⟨rfl, hd⟩
          have H1 := Lib.hid hd
          clear hd
          go_wp2
          go_ret
          exact ⟨rfl, H1.out⟩
        · go_wp2_with fail
          refine (val_of _ _ HB.out _ HVB.out).mono ?_
          rintro e w' ⟨rfl, rfl⟩
          cases vb
          all_goals
            go_wp2_with fail
            refine (tok_of _ _ (by unfold maxLen; decide) false rfl).mono ?_
            rintro e w' ⟨rfl, rfl⟩
            go_wp2_with fail
            refine (val_of _ _ (by unfold maxLen; decide) true rfl).mono ?_
            rintro e w' ⟨rfl, rfl⟩
            go_wp2_with fail
            refine (known_a _).mono ?_
            rintro e w1 ⟨rfl, hd⟩
            have H1 := Lib.hid hd
            clear hd
            go_wp2
            go_ret
            exact ⟨rfl, H1.out⟩
      · go_wp2_with fail
        refine (tok_of _ _ HB.out _ HTB.out).mono ?_
        rintro e w' ⟨rfl, rfl⟩
        cases tb
        all_goals
          go_wp2_with fail
          refine (val_of _ _ HAB.out _ HVAB.out).mono ?_
          rintro e w' ⟨rfl, rfl⟩
          go_wp2_with fail
          refine (val_of _ _ HA.out _ HVA.out).mono ?_
          rintro e w' ⟨rfl, rfl⟩
          cases va
          · go_wp2_with fail
            refine (tok_of _ _ (by unfold maxLen; decide) false rfl).mono ?_
            rintro e w' ⟨rfl, rfl⟩
            go_wp2_with fail
            refine (val_of _ _ (by unfold maxLen; decide) true rfl).mono ?_
            rintro e w' ⟨rfl, rfl⟩
            go_wp2_with fail
            refine (known_a _).mono ?_
            rintro e w1 ⟨rfl, hd⟩
            have H1 := Lib.hid hd
            clear hd
            go_wp2
            go_ret
            exact ⟨rfl, H1.out⟩
          · go_wp2_with fail
            refine (val_of _ _ HB.out _ HVB.out).mono ?_
            rintro e w' ⟨rfl, rfl⟩
            cases vb
            all_goals
              go_wp2_with fail
              refine (tok_of _ _ (by unfold maxLen; decide) false rfl).mono ?_
              rintro e w' ⟨rfl, rfl⟩
              go_wp2_with fail
              refine (val_of _ _ (by unfold maxLen; decide) true rfl).mono ?_
              rintro e w' ⟨rfl, rfl⟩
              go_wp2_with fail
              refine (known_a _).mono ?_
              rintro e w1 ⟨rfl, hd⟩
              have H1 := Lib.hid hd
              clear hd
              go_wp2
              go_ret
              exact ⟨rfl, H1.out⟩
  · go_enter Try.func3, Try.ntmps3
    go_wp2
    go_ret
    exact ⟨rfl, Below.refl _ _⟩
theorem own : ownKnob Try.prog.godebug = none := by kernel_rfl
theorem laidOut : laidOutB Try.prog = true := by kernel_rfl
set_option maxRecDepth 100000 in
theorem lifted (os : Os) (started : os.Started) (H : Type) (enc : TypeId × Value → H) :
    ReturnsInHanded {} Try.checked os 3 .any (Rows.asciiPartsSpec.pre6 enc Try.prog Try.f3 Rows.asciiPartsRow.domain false) (Rows.asciiPartsSpec.post enc Try.prog Try.f3 false true false false) := by
  refine returnsInHanded_of_change_sized (C := Try.checked) own started (by kernel_rfl) Try.func3
    (ChangeSpec.witness6 (enc := enc) (C := Try.checked) false ⟨#[], #[.string ByteArray.empty, .string ByteArray.empty], []⟩ 8 (by kernel_rfl) (by kernel_rfl) (by kernel_rfl) (by kernel_rfl)) ?_
  intro W base args ds gs before hval0 hW hcnd hsz0 _
  have hsz : (DataW.weightsEach Try.prog (Try.f3.params.toList ++ Rows.asciiPartsSpec.plain.varTypes Try.prog) (ds ++ gs)).all (· ≤ reachBytes) = true := hsz0
  have hval : ∀ (j : Nat) t v, Try.f3.params[j]? = some t → args[j]? = some v → Value.okWide Try.prog W .any base t v := hval0
  have hW' := hW
  obtain ⟨p, q, hA0, hV, rfl, hfz, hnd⟩ := hW
  have hA : DataW.TrodAll enc Try.prog W 0 (fun _ => true) true Try.f3.params.toList args.toList ds p := hA0
  rw [Try.params3] at hA hval hsz
  obtain ⟨v0, vs0, d0, ds0, p0, q0, hargs, rfl, rfl, h0, r0⟩ := trodAll_cons hA
  obtain ⟨v1, vs1, d1, ds1, p1, q1, rfl, rfl, rfl, h1, r1⟩ := trodAll_cons r0
  obtain ⟨rfl, rfl, rfl⟩ := trodAll_nil r1
  obtain rfl : args = #[v0, v1] := by cases args; simp_all
  obtain ⟨rfl, rfl⟩ := trodVars_none hV
  obtain ⟨a0, rfl, rfl, rfl, w0⟩ := open_string Try.underlying9 (hval 0 9 v0 rfl rfl) h0
  have g0 : a0.size ≤ 140737488351232 := sized_string hsz (j := 0) (t := 9) rfl rfl
  obtain ⟨a1, rfl, rfl, rfl, w1⟩ := open_string Try.underlying9 (hval 1 9 v1 rfl rfl) h1
  have g1 : a1.size ≤ 140737488351232 := sized_string hsz (j := 1) (t := 9) rfl rfl
  clear hA0 hval0 hsz0 hsz
  refine (walk a0 g0 a1 g1 W).mono fun e W' ⟨he, bel⟩ => ?_
  subst he
  exact ⟨_, rfl, _, _, _, [], _, [], hW', trodAll_mk1 (shut_bool Try.underlying4 _), (trodAll_cons_mk (shut_string Try.underlying9 w0) (trodAll_cons_mk (shut_string Try.underlying9 w1) trodAll_mk0)), rfl, bel.frame _, fun h => by cases h⟩

theorem over : Rows.asciiPartsRow.holds Try.pinned (OpenSpec.ofChange Rows.asciiPartsSpec) :=
  OpenClaim.holds_of_wide 3 Try.f3 rfl rfl rfl rfl rfl rfl rfl ⟨rfl, rfl, rfl, rfl, rfl⟩ rfl rfl rfl rfl rfl (by kernel_rfl) Try.func3 (by kernel_rfl)
    (of_decide_eq_true (by kernel_rfl)) (by unfold Func.isWrapper; first | (rw [if_pos (by decide +kernel)]; kernel_rfl) | (rw [if_neg (by decide +kernel)]; exact ⟨rfl, rfl⟩))
    (fun os started H enc _ => lifted os started H enc)

theorem proved : Rows.AsciiPartsSaid := over
end Go.Proofs.Ytfeoiopmnijbmab.asciiParts
