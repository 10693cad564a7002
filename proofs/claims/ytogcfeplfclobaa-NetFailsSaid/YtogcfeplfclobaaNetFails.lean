/- For every two numbers, so many times nobody is taken, though somebody waits, and nobody is lost by it: the law returns true. Condition: none. -/
import Derived.Test.YtogcfeplfclobaaRows
import Derived.WalkKit
import Derived.ProofKit
import Derived.OpenShut
import Derived.ShutString
import Derived.ChangeOld
import Derived.Below
import Derived.SizedLaws
import Derived.Test.YtogcfeplfclobaaNs
import Derived.Test.YtogcfeplfclobaaNt
namespace Go.Proofs.Ytogcfeplfclobaa.netFails
open Go.ChangeShapes Go.WideShapes Go.ChangeAt Go.RowKit
open Go.ChangeMaps (open_string shut_string)
set_option linter.unusedVariables false
set_option maxRecDepth 10000
/-- Peers 0, 1, .. -/
def prs (j : Nat) : List Int := (List.range j).map fun (i : Nat) => (i : Int)
theorem prs_succ (j : Nat) : prs j ++ [(j : Int)] = prs (j + 1) := by simp [prs, List.range_succ]
theorem prs_length (j : Nat) : (prs j).length = j := by simp [prs]
theorem prs_at (n j : Nat) (h : j < n) : (prs n)[j]? = some (j : Int) := by simp [prs, h]
set_option maxHeartbeats 4000000 in
theorem good (W : World) (k n : Nat) (hk : k ≤ 40) (hn : n ≤ 20) :
    Calls Try.prog 7 #[.int .i64 k, .int .i64 n] W fun e w' => e = .returned (.bool true) ∧ Below W.heap.size W w' := by
  have hnn := eql_nnil
  go_enter Try.func7, Try.ntmps7
  go_wp2_with fail
  refine (newL 20 W W (Mods.refl _ _) [] (by simp) (by decide) (by decide)).mono ?_
  rintro e w1 ⟨rfl, hd⟩
  have L1 := Lib.hid (show NetL W w1 W.heap.size (lineS 20 0 [] 0) 0 [] from hd.out)
  clear hd
  go_wp2_with fail
  refine (injectL W w1 _ _ _ 99 _ L1.out (by decide) _ (line_inject 20 0 [] 0 99 (by decide))).mono ?_
  rintro e w2 ⟨rfl, hd⟩
  have L2 := Lib.hid hd.out.1
  clear hd L1
  go_wp2_with fail
  refine (injectL W w2 _ _ _ k _ L2.out (by omega) _ (line_inject 20 99 [] 0 k (by omega))).mono ?_
  rintro e w3 ⟨rfl, hd⟩
  have L3 := Lib.hid hd.out.1
  clear hd L2
  have ha := line_none 20 k [] 0 rfl
  go_wp2_with fail
  refine (accL W w3 _ _ _ _ L3.out 0 0 2 _ ha.2.1 ha.2.2.1 ha.1 ha.2.2.2).mono ?_
  rintro e w4 ⟨rfl, hd⟩
  have L4 := Lib.hid hd.out.1
  clear hd L3 ha
  go_wp2
  go_loopw [10] (fun i wr => ∃ j : Nat, j ≤ n ∧ i = .int .i64 j ∧ Hid (NetL W wr W.heap.size (lineS 20 k (prs j) 0) 0 [])) (fun i _ => n - (intOf i).toNat)
  case atStart => exact ⟨0, Nat.zero_le _, rfl, L4⟩
  case round =>
    obtain ⟨j, hj, rfl, hd⟩ := hrel
    by_cases hlt : j < n
    · have hc := line_conn 20 k (prs j) j (by omega) (by omega) (by rw [prs_length]; omega) (by rw [prs_length]; omega)
      have HC := Lib.hid (connL W wr _ _ _ j _ hd.out j 0 (lineS 20 k (prs (j + 1)) 0) (by rw [hc.2.1, prs_length]) hc.1 (by rw [hc.2.2, prs_succ]))
      clear hc hd
      go_wp2_with fail
      refine HC.out.mono ?_
      rintro e w5 ⟨rfl, hd⟩
      have L5 := Lib.hid hd.out.1
      clear hd
      go_wp2
      go_roundw
      case rel => exact ⟨j + 1, by omega, by go_num, L5⟩
      case measure => simp [intOf]; omega
    · obtain rfl : j = n := by omega
      have L6 := hd
      clear hd L4
      go_wp2
      go_loopw [11, 12, 13, 14] (fun i _ _ _ wr => ∃ q : Nat, q ≤ k ∧ i = .int .i64 q ∧ Hid (NetL W wr W.heap.size (lineS 20 ((k - q : Nat) : Int) (prs j) 0) 0 [])) (fun i _ _ _ _ => k - (intOf i).toNat)
      case atStart => exact ⟨0, Nat.zero_le _, rfl, L6⟩
      case round =>
        obtain ⟨q, hq, rfl, hd⟩ := hrel
        by_cases hlt2 : q < k ∧ 0 < j
        · obtain ⟨h1, h2⟩ := hlt2
          have ha := line_fail 20 ((k - q : Nat) : Int) (prs j) 0 (by rw [prs_length]; omega) (by omega)
          have HC := Lib.hid (accL W wr _ _ _ _ hd.out 0 0 7 (lineS 20 ((k - (q + 1) : Nat) : Int) (prs j) 0) ha.2.1 ha.2.2.1 ha.1 (by rw [ha.2.2.2]; congr 1; omega))
          clear ha hd
          go_wp2_with fail
          refine HC.out.mono ?_
          rintro e w5 ⟨rfl, hd⟩
          have L7 := Lib.hid hd.out.1
          clear hd
          go_wp2
          go_roundw
          case rel => exact ⟨q + 1, by omega, by go_num, L7⟩
          case measure => simp [intOf]; omega
        · have L8 := Lib.hid (show ∃ f : Int, (0 < j → f = 0) ∧ NetL W wr W.heap.size (lineS 20 f (prs j) 0) 0 [] from ⟨_, fun h => by omega, hd.out⟩)
          clear hd L6
          have hw : (decide (q < k) = true ∧ decide (0 < j) = false) ∨ decide (q < k) = false := by
            by_cases h1 : q < k
            · exact .inl ⟨decide_eq_true h1, decide_eq_false (by omega)⟩
            · exact .inr (decide_eq_false h1)
          have HJ := Lib.hid hj
          clear hlt2 hq hj hlt hn hk
          rcases hw with ⟨w1, w2⟩ | w1
          all_goals go_wp2
          all_goals
            go_loopw [15, 16, 17, 18] (fun i _ _ _ wr => ∃ p : Nat, p ≤ j ∧ i = .int .i64 p ∧ Hid (∃ f : Int, (0 < j → f = 0) ∧ NetL W wr W.heap.size (lineS 20 f (prs j) p) 0 [])) (fun i _ _ _ _ => j - (intOf i).toNat)
            case atStart => exact ⟨0, Nat.zero_le _, rfl, L8⟩
            case round =>
              obtain ⟨p, hp, rfl, hd⟩ := hrel
              by_cases hlt3 : p < j
              · obtain ⟨f, hf, hd⟩ := hd.out
                have hf0 := hf (by omega)
                subst hf0
                have ha := line_acc 20 (prs j) p (prs_at j p hlt3)
                have HC := Lib.hid (accL W wr _ _ _ _ hd p p 0 _ ha.2.1 ha.2.2.1 ha.1 ha.2.2.2)
                clear ha hd hf
                go_wp2_with fail
                refine HC.out.mono ?_
                rintro e w5 ⟨rfl, hd⟩
                have L9 := Lib.hid (show ∃ f : Int, (0 < j → f = 0) ∧ NetL W w5 W.heap.size (lineS 20 f (prs j) (p + 1)) 0 [] from ⟨0, fun _ => rfl, hd.out.1⟩)
                clear hd
                go_wp2
                go_roundw
                case rel => exact ⟨p + 1, by omega, by go_num, L9⟩
                case measure => simp [intOf]; omega
              · have M9 := Lib.hid (show Mods [] W wr by obtain ⟨f, hf, hd⟩ := hd.out; exact hd.mods)
                clear hd L8
                go_wp2_with fail
                refine (known_any _).mono ?_
                rintro e w5 ⟨rfl, hm⟩
                go_wp2
                go_ret
                exact ⟨rfl, (M9.out.trans hm (by simp)).below⟩
theorem walk (W : World) (k : Int) (hk : (Lit.int .i64 k).wf = true) (n : Int) (hn : (Lit.int .i64 n).wf = true) :
    Calls Try.prog 7 #[.int .i64 k, .int .i64 n] W fun e w' => e = .returned (.bool true) ∧ Below W.heap.size W w' := by
  by_cases h : 0 ≤ k ∧ k ≤ 40 ∧ 0 ≤ n ∧ n ≤ 20
  · obtain ⟨a, rfl⟩ : ∃ a : Nat, k = (a : Int) := ⟨k.toNat, by omega⟩
    obtain ⟨b, rfl⟩ : ∃ b : Nat, n = (b : Int) := ⟨n.toNat, by omega⟩
    exact good W a b (by omega) (by omega)
  · have H := Lib.hid (known_any W)
    have hw : (k < 0) ∨ (0 ≤ k ∧ 40 < k) ∨ (0 ≤ k ∧ k ≤ 40 ∧ n < 0) ∨ (0 ≤ k ∧ k ≤ 40 ∧ 0 ≤ n ∧ 20 < n) := by omega
    clear h hk hn
    rcases hw with h | ⟨h1, h2⟩ | ⟨h1, h2, h3⟩ | ⟨h1, h2, h3, h4⟩
    all_goals
      go_enter Try.func7, Try.ntmps7
      go_wp2_with fail
      refine H.out.mono ?_
      rintro e w1 ⟨rfl, hm⟩
      go_wp2
      go_ret
      exact ⟨rfl, hm.below⟩

theorem own : ownKnob Try.prog.godebug = none := by kernel_rfl
theorem laidOut : laidOutB Try.prog = true := by kernel_rfl
set_option maxRecDepth 100000 in
theorem lifted (os : Os) (started : os.Started) (H : Type) (enc : TypeId × Value → H) :
    ReturnsInHanded {} Try.checked os 7 .any (Rows.netFailsSpec.pre6 enc Try.prog Try.f7 Rows.netFailsRow.domain false) (Rows.netFailsSpec.post enc Try.prog Try.f7 false true false false) := by
  refine returnsInHanded_of_change_sized (C := Try.checked) own started (by kernel_rfl) Try.func7
    (ChangeSpec.witness6 (enc := enc) (C := Try.checked) false ⟨#[], #[.int .i64 0, .int .i64 0], []⟩ 8 (by kernel_rfl) (by kernel_rfl) (by kernel_rfl) (by kernel_rfl)) ?_
  intro W base args ds gs before hval0 hW hcnd hsz0 _
  have hsz : (DataW.weightsEach Try.prog (Try.f7.params.toList ++ Rows.netFailsSpec.plain.varTypes Try.prog) (ds ++ gs)).all (· ≤ reachBytes) = true := hsz0
  have hval : ∀ (j : Nat) t v, Try.f7.params[j]? = some t → args[j]? = some v → Value.okWide Try.prog W .any base t v := hval0
  have hW' := hW
  obtain ⟨p, q, hA0, hV, rfl, hfz, hnd⟩ := hW
  have hA : DataW.TrodAll enc Try.prog W 0 (fun _ => true) true Try.f7.params.toList args.toList ds p := hA0
  rw [Try.params7] at hA hval hsz
  obtain ⟨v0, vs0, d0, ds0, p0, q0, hargs, rfl, rfl, h0, r0⟩ := trodAll_cons hA
  obtain ⟨v1, vs1, d1, ds1, p1, q1, rfl, rfl, rfl, h1, r1⟩ := trodAll_cons r0
  obtain ⟨rfl, rfl, rfl⟩ := trodAll_nil r1
  obtain rfl : args = #[v0, v1] := by cases args; simp_all
  obtain ⟨rfl, rfl⟩ := trodVars_none hV
  obtain ⟨a0, rfl, rfl, rfl, w0⟩ := open_int Try.underlying3 (hval 0 3 v0 rfl rfl) h0
  obtain ⟨a1, rfl, rfl, rfl, w1⟩ := open_int Try.underlying3 (hval 1 3 v1 rfl rfl) h1
  clear hA0 hval0 hsz0 hsz
  refine (walk W a0 w0 a1 w1).mono fun e W' ⟨he, bel⟩ => ?_
  subst he
  exact ⟨_, rfl, _, _, _, [], _, [], hW', trodAll_mk1 (shut_bool Try.underlying4 _), (trodAll_cons_mk (shut_int Try.underlying3 w0) (trodAll_cons_mk (shut_int Try.underlying3 w1) trodAll_mk0)), rfl, bel.frame _, fun h => by cases h⟩

theorem over : Rows.netFailsRow.holds Try.pinned (OpenSpec.ofChange Rows.netFailsSpec) :=
  OpenClaim.holds_of_wide 7 Try.f7 rfl rfl rfl rfl rfl rfl rfl ⟨rfl, rfl, rfl, rfl, rfl⟩ rfl rfl rfl rfl rfl (by kernel_rfl) Try.func7 (by kernel_rfl)
    (of_decide_eq_true (by kernel_rfl)) (by unfold Func.isWrapper; first | (rw [if_pos (by decide +kernel)]; kernel_rfl) | (rw [if_neg (by decide +kernel)]; exact ⟨rfl, rfl⟩))
    (fun os started H enc _ => lifted os started H enc)

theorem proved : Rows.NetFailsSaid := over
end Go.Proofs.Ytogcfeplfclobaa.netFails
