/- For every number and name, a path that goes down so many times and up as often is the root, and up once more leads out: the law returns true. Condition: none. -/
import Derived.Test.YtgckpoecdaioiaaRows
import Derived.WalkKit
import Derived.ProofKit
import Derived.OpenShut
import Derived.ShutString
import Derived.ChangeOld
import Derived.Below
import Derived.SizedLaws
import Derived.Test.YtgckpoecdaioiaaTr11
import Derived.Test.YtgckpoecdaioiaaTs11
namespace Go.Proofs.Ytgckpoecdaioiaa.targetUp
open Go.ChangeShapes Go.WideShapes Go.ChangeAt Go.RowKit
open Go.ChangeMaps (open_string shut_string)
set_option linter.unusedVariables false

theorem dots_no {s : ByteArray} (h : ¬ s.data.toList = []) (h1 : ¬ s.data.toList = [46]) (h2 : ¬ s.data.toList = [46, 46]) : dotsL s.data.toList = false := by unfold dotsL; simp [h, h1, h2]
theorem join_down (name : ByteArray) (k : Nat) : ofL (joinS (downL name.data.toList k)) ++ ⟨#[47]⟩ ++ name = ofL (joinS (downL name.data.toList (k + 1))) := by
  apply bytes_ext
  rw [ByteArray.data_append, ByteArray.data_append, Array.toList_append, Array.toList_append, ofL_list, ofL_list, show downL name.data.toList (k + 1) = downL name.data.toList k ++ [name.data.toList] from List.replicate_succ', joinS_snoc]
  simp
theorem join_ups (k : Nat) : ofL (joinS (upsL k)) ++ ⟨#[47, 46, 46]⟩ = ofL (joinS (upsL (k + 1))) := by
  apply bytes_ext
  rw [ByteArray.data_append, Array.toList_append, ofL_list, ofL_list, show upsL (k + 1) = upsL k ++ [[46, 46]] from List.replicate_succ', joinS_snoc]
theorem down_len (l : List UInt8) : ∀ k : Nat, (joinS (downL l k)).length = k * (l.length + 1)
  | 0 => by simp [downL, joinS]
  | k + 1 => by
    rw [show downL l (k + 1) = downL l k ++ [l] from List.replicate_succ', joinS_snoc, List.length_append, down_len l k, List.length_cons, Nat.add_mul]
    omega
theorem end_root (name : ByteArray) (n : Nat) (t : ByteArray) : (ofL (joinS (downL name.data.toList n)) ++ ofL (joinS (upsL n)) ++ t).data.toList = joinS (downL name.data.toList n ++ upsL n) ++ t.data.toList := by
  rw [ByteArray.data_append, ByteArray.data_append, Array.toList_append, Array.toList_append, ofL_list, ofL_list, joinS_app]

set_option maxRecDepth 10000 in
set_option maxHeartbeats 1000000 in
theorem walk (w : World) (n : Int) (wn : (Lit.int .i64 n).wf = true) (s : ByteArray) (hs : s.size ≤ 140737488351232) :
    Calls Try.prog 8 #[.int .i64 n, .string s] w fun e w' => e = .returned (.bool true) ∧ Below w.heap.size w w' := by
  by_cases hn : n < 0 ∨ 60 < n ∨ 20 < s.size
  · rcases hn with hn | hn
    · go_enter Try.func8, Try.ntmps8
      go_wp2_with (go_at_call 13; refine (known_l _).mono ?_; rintro e w4 ⟨rfl, hm⟩; have M4 := Lib.hid hm; clear hm)
      go_ret
      exact ⟨rfl, M4.out.below⟩
    · by_cases h0 : n < 0
      · go_enter Try.func8, Try.ntmps8
        go_wp2_with (go_at_call 13; refine (known_l _).mono ?_; rintro e w4 ⟨rfl, hm⟩; have M4 := Lib.hid hm; clear hm)
        go_ret
        exact ⟨rfl, M4.out.below⟩
      · have hb0 : decide (n < 0) = false := by simpa using h0
        by_cases h60 : 60 < n
        · go_enter Try.func8, Try.ntmps8
          go_wp2_with (go_at_call 13; refine (known_l _).mono ?_; rintro e w4 ⟨rfl, hm⟩; have M4 := Lib.hid hm; clear hm)
          go_ret
          exact ⟨rfl, M4.out.below⟩
        · have hb1 : decide (60 < n) = false := by simpa using h60
          have hb2 : 20 < s.size := by omega
          go_enter Try.func8, Try.ntmps8
          go_wp2_with (go_at_call 13; refine (known_l _).mono ?_; rintro e w4 ⟨rfl, hm⟩; have M4 := Lib.hid hm; clear hm)
          go_ret
          exact ⟨rfl, M4.out.below⟩
  · obtain ⟨q, rfl⟩ : ∃ q : Nat, n = q := ⟨n.toNat, by omega⟩
    have hq : q ≤ 60 := by omega
    have hs20 : s.size ≤ 20 := by omega
    clear hn wn hs
    go_enter Try.func8, Try.ntmps8
    go_wp2
    go_loop [5] (fun i => ∃ (k : Nat), k ≤ s.size ∧ i = .int .i64 k ∧ (s.data.toList.take k).all (fun c => !isC 47 c) = true) (fun i => s.size - (intOf i).toNat)
    case atStart => exact ⟨0, Nat.zero_le _, rfl, rfl⟩
    case round =>
      obtain ⟨k, hk, rfl, hall⟩ := hrel
      have HA := Lib.hid hall
      clear hall
      by_cases hlt : k < s.size
      · by_cases hc : s[k] = 47
        · have e1 : ((s[k].toNat : Int) == 47) = true := by rw [hc]; rfl
          clear hc
          go_wp2_with (go_at_call 13; refine (known_l _).mono ?_; rintro e w4 ⟨rfl, hm⟩; have M4 := Lib.hid hm; clear hm)
          go_ret
          exact ⟨rfl, M4.out.below⟩
        · have e1 : ((s[k].toNat : Int) == 47) = false := by have := (b_no 47 hc).1; simpa using this
          have HN := Lib.hid (take_all hlt HA.out (show (!isC 47 s[k]) = true by unfold isC; simp [hc]))
          clear hc
          go_wp2
          go_round
          case rel => exact ⟨k + 1, by omega, by go_num, HN.out⟩
          case measure => simp [intOf]; omega
      · have hno : ∀ x ∈ s.data.toList, x ≠ 47 := fun x hx => isC_no (by have := List.all_eq_true.1 (take_end hlt HA.out) x hx; simpa using this)
        have HNO := Lib.hid hno
        clear hno HA
        by_cases h0 : s.data.toList = []
        · obtain rfl : s = ⟨#[]⟩ := bytes_ext h0
          go_wp2_with (go_at_call 13; refine (known_l _).mono ?_; rintro e w4 ⟨rfl, hm⟩; have M4 := Lib.hid hm; clear hm)
          go_ret
          exact ⟨rfl, M4.out.below⟩
        · obtain ⟨e3, e4⟩ := emp_no (size_pos h0)
          by_cases h1 : s.data.toList = [46]
          · have e5 := text_eq h1
            clear h0 h1
            go_wp2_with (go_at_call 13; refine (known_l _).mono ?_; rintro e w4 ⟨rfl, hm⟩; have M4 := Lib.hid hm; clear hm)
            go_ret
            exact ⟨rfl, M4.out.below⟩
          · have e5 := text_ne h1
            by_cases h2 : s.data.toList = [46, 46]
            · have e6 := text_eq h2
              clear h0 h1 h2
              go_wp2_with (go_at_call 13; refine (known_l _).mono ?_; rintro e w4 ⟨rfl, hm⟩; have M4 := Lib.hid hm; clear hm)
              go_ret
              exact ⟨rfl, M4.out.below⟩
            · have e6 := text_ne h2
              have HD := Lib.hid (dots_no h0 h1 h2)
              have HLD := Lib.hid (fun k => (ofL_size _).trans (down_len s.data.toList k))
              have HLU := Lib.hid (fun k => (ofL_size _).trans (down_len [46, 46] k))
              clear h0 h1 h2
              go_wp2
              go_loop [6, 7, 8] (fun a b i => ∃ (j : Nat), j ≤ q ∧ i = .int .i64 j ∧ a = .string (ofL (joinS (downL s.data.toList j))) ∧ b = .string (ofL (joinS (upsL j)))) (fun _ _ i => q - (intOf i).toNat)
              case atStart => exact ⟨0, Nat.zero_le _, rfl, rfl, rfl⟩
              case round =>
                obtain ⟨j, hj, rfl, rfl, rfl⟩ := hrel
                have hd := HLD.out j
                have hu := HLU.out j
                rw [len_data] at hd
                have hd2 : j * (s.size + 1) ≤ 60 * 21 := Nat.mul_le_mul (by omega) (by omega)
                by_cases hjq : j < q
                · have HJ1 := Lib.hid (join_down s j)
                  have HJ2 := Lib.hid (join_ups j)
                  obtain ⟨a, ha⟩ : ∃ a, a = ofL (joinS (downL s.data.toList j)) := ⟨_, rfl⟩
                  obtain ⟨b, hb⟩ : ∃ b, b = ofL (joinS (upsL j)) := ⟨_, rfl⟩
                  rw [← ha] at HJ1 hd ⊢
                  rw [← hb] at HJ2 ⊢
                  have hb' : b.size = j * 3 := by rw [hb]; exact hu
                  have has : a.size ≤ 2000 := by omega
                  have hbs : b.size ≤ 2000 := by omega
                  clear ha hb hd hu hd2 hb'
                  go_wp2
                  go_round
                  case rel => exact ⟨j + 1, by omega, by go_num, by rw [HJ1.out], by rw [HJ2.out]⟩
                  case measure => simp [intOf]; omega
                · obtain rfl : j = q := by omega
                  have HR := Lib.hid (fun t => end_root s j t)
                  have hroot := up_root s.data.toList j HNO.out HD.out
                  have hout := up_out s.data.toList j HNO.out HD.out
                  have hb' : (ofL (joinS (upsL j))).size = j * 3 := hu
                  obtain ⟨a, ha⟩ : ∃ a, a = ofL (joinS (downL s.data.toList j)) := ⟨_, rfl⟩
                  obtain ⟨b, hb⟩ : ∃ b, b = ofL (joinS (upsL j)) := ⟨_, rfl⟩
                  rw [← ha] at HR hd ⊢
                  rw [← hb] at HR hb' ⊢
                  have has : a.size ≤ 2000 := by omega
                  have hbs : b.size ≤ 2000 := by omega
                  have HS1 := Lib.hid (show (a ++ b ++ ⟨#[47]⟩ : ByteArray).size ≤ 1000000 by rw [ByteArray.size_append, ByteArray.size_append]; show _ + 1 ≤ _; omega)
                  have HS2 := Lib.hid (show (a ++ b ++ ⟨#[47, 46, 46]⟩ : ByteArray).size ≤ 1000000 by rw [ByteArray.size_append, ByteArray.size_append]; show _ + 3 ≤ _; omega)
                  have HA := Lib.hid (fun w => clean_a (a ++ b ++ ⟨#[47]⟩) HS1.out w)
                  have HB := Lib.hid (fun w => clean_a (a ++ b ++ ⟨#[47, 46, 46]⟩) HS2.out w)
                  rw [HR.out, clnA_yes (show clnL (joinS (downL s.data.toList j ++ upsL j) ++ (⟨#[47]⟩ : ByteArray).data.toList) = some [47] from hroot)] at HA
                  rw [HR.out, clnA_no (show clnL (joinS (downL s.data.toList j ++ upsL j) ++ (⟨#[47, 46, 46]⟩ : ByteArray).data.toList) = none from hout)] at HB
                  simp only [ofL] at HA
                  clear ha hb hd hu hd2 hb' hroot hout
                  go_wp2_with fail
                  refine (HA.out _).mono ?_
                  rintro e w1 ⟨rfl, hm⟩
                  have M1 := Lib.hid hm
                  clear hm
                  go_wp2_with fail
                  refine (HB.out _).mono ?_
                  rintro e w2 ⟨rfl, hm⟩
                  have M2 := Lib.hid (M1.out.on hm)
                  clear hm
                  go_wp2_with (go_at_call 13; refine (known_l _).mono ?_; rintro e w4 ⟨rfl, hm⟩; have M4 := Lib.hid (M2.out.on hm); clear hm)
                  go_ret
                  exact ⟨rfl, M4.out.below⟩

theorem own : ownKnob Try.prog.godebug = none := by kernel_rfl
theorem laidOut : laidOutB Try.prog = true := by kernel_rfl
set_option maxRecDepth 100000 in
theorem lifted (os : Os) (started : os.Started) (H : Type) (enc : TypeId × Value → H) :
    ReturnsInHanded {} Try.checked os 8 .any (Rows.targetUpSpec.pre6 enc Try.prog Try.f8 Rows.targetUpRow.domain false) (Rows.targetUpSpec.post enc Try.prog Try.f8 false true false false) := by
  refine returnsInHanded_of_change_sized (C := Try.checked) own started (by kernel_rfl) Try.func8
    (ChangeSpec.witness6 (enc := enc) (C := Try.checked) false ⟨#[], #[.int .i64 0, .string ByteArray.empty], []⟩ 8 (by kernel_rfl) (by kernel_rfl) (by kernel_rfl) (by kernel_rfl)) ?_
  intro W base args ds gs before hval0 hW hcnd hsz0 _
  have hsz : (DataW.weightsEach Try.prog (Try.f8.params.toList ++ Rows.targetUpSpec.plain.varTypes Try.prog) (ds ++ gs)).all (· ≤ reachBytes) = true := hsz0
  have hval : ∀ (j : Nat) t v, Try.f8.params[j]? = some t → args[j]? = some v → Value.okWide Try.prog W .any base t v := hval0
  have hW' := hW
  obtain ⟨p, q, hA0, hV, rfl, hfz, hnd⟩ := hW
  have hA : DataW.TrodAll enc Try.prog W 0 (fun _ => true) true Try.f8.params.toList args.toList ds p := hA0
  rw [Try.params8] at hA hval hsz
  obtain ⟨v0, vs0, d0, ds0, p0, q0, hargs, rfl, rfl, h0, r0⟩ := trodAll_cons hA
  obtain ⟨v1, vs1, d1, ds1, p1, q1, rfl, rfl, rfl, h1, r1⟩ := trodAll_cons r0
  obtain ⟨rfl, rfl, rfl⟩ := trodAll_nil r1
  obtain rfl : args = #[v0, v1] := by cases args; simp_all
  obtain ⟨rfl, rfl⟩ := trodVars_none hV
  obtain ⟨a0, rfl, rfl, rfl, w0⟩ := open_int Try.underlying3 (hval 0 3 v0 rfl rfl) h0
  obtain ⟨a1, rfl, rfl, rfl, w1⟩ := open_string Try.underlying9 (hval 1 9 v1 rfl rfl) h1
  have g1 : a1.size ≤ 140737488351232 := sized_string hsz (j := 1) (t := 9) rfl rfl
  clear hA0 hval0 hsz0 hsz
  refine (walk W a0 w0 a1 g1).mono fun e W' ⟨he, bel⟩ => ?_
  subst he
  exact ⟨_, rfl, _, _, _, [], _, [], hW', trodAll_mk1 (shut_bool Try.underlying4 _), (trodAll_cons_mk (shut_int Try.underlying3 w0) (trodAll_cons_mk (shut_string Try.underlying9 w1) trodAll_mk0)), rfl, bel.frame _, fun h => by cases h⟩

theorem over : Rows.targetUpRow.holds Try.pinned (OpenSpec.ofChange Rows.targetUpSpec) :=
  OpenClaim.holds_of_wide 8 Try.f8 rfl rfl rfl rfl rfl rfl rfl ⟨rfl, rfl, rfl, rfl, rfl⟩ rfl rfl rfl rfl rfl (by kernel_rfl) Try.func8 (by kernel_rfl)
    (of_decide_eq_true (by kernel_rfl)) (by unfold Func.isWrapper; first | (rw [if_pos (by decide +kernel)]; kernel_rfl) | (rw [if_neg (by decide +kernel)]; exact ⟨rfl, rfl⟩))
    (fun os started H enc _ => lifted os started H enc)

theorem proved : Rows.TargetUpSaid := over
end Go.Proofs.Ytgckpoecdaioiaa.targetUp
