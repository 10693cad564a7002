/- For every two texts, ascii.Same answers whether their small letters are one, and making letters small twice is making them small once: the law returns true. Condition: none. -/
import Derived.Test.YtfeoiopmnijbmaaRows
import Derived.WalkKit
import Derived.ProofKit
import Derived.OpenShut
import Derived.ShutString
import Derived.ChangeOld
import Derived.Below
import Derived.SizedLaws
import Derived.Test.YtfeoiopmnijbmaaKnown
namespace Go.Proofs.Ytfeoiopmnijbmaa.asciiSame
open Go.ChangeShapes Go.WideShapes Go.ChangeAt Go.RowKit
open Go.ChangeMaps (open_string shut_string)
set_option linter.unusedVariables false

theorem low_low (c : UInt8) : lowB (lowB c) = lowB c := by
  by_cases h : 65 ≤ c.toNat ∧ c.toNat ≤ 90
  · have := lowB_up h.1 h.2
    exact lowB_lo (by omega)
  · rw [lowB_lo h, lowB_lo h]
theorem lowL_lowL (l : List UInt8) : lowL (lowL l) = lowL l := by
  unfold lowL; rw [List.map_map]; apply List.map_congr_left; intro c _; exact low_low c
def lowA (s : ByteArray) : ByteArray := ⟨(lowL s.data.toList).toArray⟩
theorem lowA_size (s : ByteArray) : (lowA s).size = s.size := by
  rw [← lowL_length s]; rfl
theorem lowA_list (s : ByteArray) : (lowA s).data.toList = lowL s.data.toList := rfl
theorem lowA_low (s : ByteArray) : lowA (lowA s) = lowA s := by
  show (⟨(lowL (lowA s).data.toList).toArray⟩ : ByteArray) = _
  rw [lowA_list, lowL_lowL]; rfl
theorem same_low (s : ByteArray) : sameL s (lowA s) = true := by
  unfold sameL; rw [lowA_list, lowL_lowL]; simp
theorem same_eq (a b : ByteArray) : (sameL a b == ((lowA a).toList == (lowA b).toList)) = true := by
  unfold sameL
  rw [ByteArray.toList_eq, ByteArray.toList_eq, lowA_list, lowA_list]
  by_cases h : lowL a.data.toList = lowL b.data.toList
  · rw [h]; simp
  · simp [h]
theorem lower_A (s : ByteArray) (w : World) (hs : s.size ≤ maxLen) : Calls Try.prog 7 #[.string s] w fun e w' => e = .returned (.string (lowA s)) ∧ Below w.heap.size w w' := lower_a s w hs
theorem lower_AA (s : ByteArray) (w : World) (hs : (lowA s).size ≤ maxLen) : Calls Try.prog 7 #[.string (lowA s)] w fun e w' => e = .returned (.string (lowA s)) ∧ Below w.heap.size w w' :=
  (lower_A (lowA s) w hs).mono fun e w' ⟨he, hw⟩ => ⟨by rw [he, lowA_low], hw⟩
theorem same_A (s : ByteArray) (w : World) (hs : s.size ≤ maxLen) : Calls Try.prog 6 #[.string s, .string (lowA s)] w fun e w' => e = .returned (.bool true) ∧ Below w.heap.size w w' :=
  (same_a s (lowA s) w hs (by rw [lowA_size]; exact hs)).mono fun e w' ⟨he, hw⟩ => ⟨by rw [he, same_low], hw.below⟩

set_option maxRecDepth 10000 in
theorem walk (a : ByteArray) (ha' : a.size ≤ 140737488351232) (b : ByteArray) (hb' : b.size ≤ 140737488351232) (w : World) :
    Calls Try.prog 3 #[.string a, .string b] w fun e w' => e = .returned (.bool true) ∧ Below w.heap.size w w' := by
  have ha : a.size ≤ maxLen := by unfold maxLen; omega
  have hb : b.size ≤ maxLen := by unfold maxLen; omega
  have HA := Lib.hid ha
  have HB := Lib.hid hb
  have HL := Lib.hid (show (lowA a).size ≤ maxLen by rw [lowA_size]; exact ha)
  clear ha hb
  by_cases hl : a.size + b.size ≤ 2000
  · go_enter Try.func3, Try.ntmps3
    go_wp2_with fail
    refine (same_a _ _ _ HA.out HB.out).mono ?_
    rintro e w1 ⟨rfl, hd⟩
    have H1 := Lib.hid hd.below
    clear hd
    go_wp2_with fail
    refine (lower_A _ _ HA.out).mono ?_
    rintro e w2 ⟨rfl, hd⟩
    have H2 := Lib.hid (H1.out.trans (hd.mono H1.out.size))
    clear hd
    go_wp2_with fail
    refine (lower_A _ _ HB.out).mono ?_
    rintro e w3 ⟨rfl, hd⟩
    have H3 := Lib.hid (H2.out.trans (hd.mono H2.out.size))
    clear hd
    have he := same_eq a b
    go_wp2_with fail
    refine (lower_A _ _ HA.out).mono ?_
    rintro e w4 ⟨rfl, hd⟩
    have H4 := Lib.hid (H3.out.trans (hd.mono H3.out.size))
    clear hd
    go_wp2_with fail
    refine (same_A _ _ HA.out).mono ?_
    rintro e w5 ⟨rfl, hd⟩
    have H5 := Lib.hid (H4.out.trans (hd.mono H4.out.size))
    clear hd
    go_wp2_with fail
    refine (lower_A _ _ HA.out).mono ?_
    rintro e w6 ⟨rfl, hd⟩
    have H6 := Lib.hid (H5.out.trans (hd.mono H5.out.size))
    clear hd
    go_wp2_with fail
    refine (lower_AA _ _ HL.out).mono ?_
    rintro e w7 ⟨rfl, hd⟩
    have H7 := Lib.hid (H6.out.trans (hd.mono H6.out.size))
    clear hd
    go_wp2_with fail
    refine (lower_A _ _ HA.out).mono ?_
    rintro e w8 ⟨rfl, hd⟩
    have H8 := Lib.hid (H7.out.trans (hd.mono H7.out.size))
    clear hd
    go_wp2_with fail
    refine (known_a _).mono ?_
    rintro e w9 ⟨rfl, hd⟩
    have H9 := Lib.hid (H8.out.trans (hd.mono H8.out.size))
    clear hd
    go_wp2
    go_ret
    exact ⟨rfl, H9.out⟩
  · go_enter Try.func3, Try.ntmps3
    go_wp2
    go_ret
    exact ⟨rfl, Below.refl _ _⟩
theorem own : ownKnob Try.prog.godebug = none := by kernel_rfl
theorem laidOut : laidOutB Try.prog = true := by kernel_rfl
set_option maxRecDepth 100000 in
theorem lifted (os : Os) (started : os.Started) (H : Type) (enc : TypeId × Value → H) :
    ReturnsInHanded {} Try.checked os 3 .any (Rows.asciiSameSpec.pre6 enc Try.prog Try.f3 Rows.asciiSameRow.domain false) (Rows.asciiSameSpec.post enc Try.prog Try.f3 false true false false) := by
  refine returnsInHanded_of_change_sized (C := Try.checked) own started (by kernel_rfl) Try.func3
    (ChangeSpec.witness6 (enc := enc) (C := Try.checked) false ⟨#[], #[.string ByteArray.empty, .string ByteArray.empty], []⟩ 8 (by kernel_rfl) (by kernel_rfl) (by kernel_rfl) (by kernel_rfl)) ?_
  intro W base args ds gs before hval0 hW hcnd hsz0 _
  have hsz : (DataW.weightsEach Try.prog (Try.f3.params.toList ++ Rows.asciiSameSpec.plain.varTypes Try.prog) (ds ++ gs)).all (· ≤ reachBytes) = true := hsz0
  have hval : ∀ (j : Nat) t v, Try.f3.params[j]? = some t → args[j]? = some v → Value.okWide Try.prog W .any base t v := hval0
  have hW' := hW
  obtain ⟨p, q, hA0, hV, rfl, hfz, hnd⟩ := hW
  have hA : DataW.TrodAll enc Try.prog W 0 (fun _ => true) true Try.f3.params.toList args.toList ds p := hA0
  rw [Try.params3] at hA hval hsz
  obtain ⟨v0, vs0, d0, ds0, p0, q0, hargs, rfl, rfl, h0, r0⟩ := trodAll_cons hA
  obtain ⟨v1, vs1, d1, ds1, p1, q1, rfl, rfl, rfl, h1, r1⟩ := trodAll_cons r0
  obtain ⟨rfl, rfl, rfl⟩ := trodAll_nil r1
  obtain rfl : args = #[v0, v1] := by cases args; simp_all
  obtain ⟨rfl, rfl⟩ := trodVars_none hV
  obtain ⟨a0, rfl, rfl, rfl, w0⟩ := open_string Try.underlying9 (hval 0 9 v0 rfl rfl) h0
  have g0 : a0.size ≤ 140737488351232 := sized_string hsz (j := 0) (t := 9) rfl rfl
  obtain ⟨a1, rfl, rfl, rfl, w1⟩ := open_string Try.underlying9 (hval 1 9 v1 rfl rfl) h1
  have g1 : a1.size ≤ 140737488351232 := sized_string hsz (j := 1) (t := 9) rfl rfl
  clear hA0 hval0 hsz0 hsz
  refine (walk a0 g0 a1 g1 W).mono fun e W' ⟨he, bel⟩ => ?_
  subst he
  exact ⟨_, rfl, _, _, _, [], _, [], hW', trodAll_mk1 (shut_bool Try.underlying4 _), (trodAll_cons_mk (shut_string Try.underlying9 w0) (trodAll_cons_mk (shut_string Try.underlying9 w1) trodAll_mk0)), rfl, bel.frame _, fun h => by cases h⟩

theorem over : Rows.asciiSameRow.holds Try.pinned (OpenSpec.ofChange Rows.asciiSameSpec) :=
  OpenClaim.holds_of_wide 3 Try.f3 rfl rfl rfl rfl rfl rfl rfl ⟨rfl, rfl, rfl, rfl, rfl⟩ rfl rfl rfl rfl rfl (by kernel_rfl) Try.func3 (by kernel_rfl)
    (of_decide_eq_true (by kernel_rfl)) (by unfold Func.isWrapper; first | (rw [if_pos (by decide +kernel)]; kernel_rfl) | (rw [if_neg (by decide +kernel)]; exact ⟨rfl, rfl⟩))
    (fun os started H enc _ => lifted os started H enc)

theorem proved : Rows.AsciiSameSaid := over
end Go.Proofs.Ytfeoiopmnijbmaa.asciiSame
