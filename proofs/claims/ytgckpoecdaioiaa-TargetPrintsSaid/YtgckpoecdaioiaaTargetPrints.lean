/- For every target, the code's Print answers as the document's: the law returns true. Condition: none. -/
import Derived.Test.YtgckpoecdaioiaaRows
import Derived.WalkKit
import Derived.ProofKit
import Derived.OpenShut
import Derived.ShutString
import Derived.ChangeOld
import Derived.Below
import Derived.SizedLaws
import Derived.Test.YtgckpoecdaioiaaTr11
import Derived.Test.YtgckpoecdaioiaaUe11
import Derived.Test.YtgckpoecdaioiaaUg11
namespace Go.Proofs.Ytgckpoecdaioiaa.targetPrints
open Go.ChangeShapes Go.WideShapes Go.ChangeAt Go.RowKit
open Go.ChangeMaps (open_string shut_string)
set_option linter.unusedVariables false

set_option maxRecDepth 100000 in
set_option maxHeartbeats 1000000 in
theorem walk (w : World) (f : Int) (h p q : ByteArray) (hs : h.size ≤ 140737488351232 ∧ p.size ≤ 140737488351232 ∧ q.size ≤ 140737488351232) :
    Calls Try.prog 4 #[.agg #[.int .i64 f, .string h, .string p, .string q]] w fun e w' => e = .returned (.bool true) ∧ Below w.heap.size w w' := by
  obtain ⟨h1, h2, h3⟩ := hs
  by_cases hl : 2000 < h.size + p.size + q.size
  · have hb2 : (2000 : Int) < (h.size : Int) + (p.size : Int) + (q.size : Int) := by omega
    go_enter Try.func4, Try.ntmps4
    go_wp2
    go_ret
    exact ⟨rfl, ((Mods.refl [] w).alloc _).below⟩
  · have hb2 : decide ((2000 : Int) < (h.size : Int) + (p.size : Int) + (q.size : Int)) = false := decide_eq_false (by omega)
    have hb3 : (h.size : Int) + (p.size : Int) + (q.size : Int) ≤ 2000 := by omega
    have HA := Lib.hid (fun w => print_a ⟨f, h, p, q⟩ (show h.size + p.size + q.size ≤ 10000 by omega) w)
    have HB := Lib.hid (fun w => print_r ⟨f, h, p, q⟩ (show h.size + p.size + q.size ≤ 10000 by omega) w)
    unfold PAns at HA HB
    generalize prT ⟨f, h, p, q⟩ = r at HA HB
    obtain ⟨s, n⟩ := r
    clear hl
    go_enter Try.func4, Try.ntmps4
    go_wp2_with (first
      | (go_at_call 14; refine (HA.out _).mono ?_; rintro e w1 ⟨rfl, hm⟩; have M1 := Lib.hid (((Mods.refl [] w).alloc _).on hm); have R1 := Lib.hid ((Row.new w 23 #[.int .i64 f, .string h, .string p, .string q]).mods hm (by simp)); obtain ⟨c0, c1, c2, c3⟩ := R1.out.facts4; clear hm)
      | (go_at_call 15; refine (HB.out _).mono ?_; rintro e w2 ⟨rfl, hm⟩; have M2 := Lib.hid (M1.out.on hm); clear hm)
      | (go_at_call 13; refine (known_l _).mono ?_; rintro e w3 ⟨rfl, hm⟩; have M3 := Lib.hid (M2.out.on hm); clear hm))
    go_ret
    exact ⟨rfl, M3.out.below⟩

theorem own : ownKnob Try.prog.godebug = none := by kernel_rfl
theorem laidOut : laidOutB Try.prog = true := by kernel_rfl
set_option maxRecDepth 100000 in
theorem lifted (os : Os) (started : os.Started) (H : Type) (enc : TypeId × Value → H) :
    ReturnsInHanded {} Try.checked os 4 .any (Rows.targetPrintsSpec.pre6 enc Try.prog Try.f4 Rows.targetPrintsRow.domain false) (Rows.targetPrintsSpec.post enc Try.prog Try.f4 false true false false) := by
  refine returnsInHanded_of_change_sized (C := Try.checked) own started (by kernel_rfl) Try.func4
    (ChangeSpec.witness6 (enc := enc) (C := Try.checked) false ⟨#[], #[.agg #[.int .i64 0, .string ByteArray.empty, .string ByteArray.empty, .string ByteArray.empty]], []⟩ 8 (by kernel_rfl) (by kernel_rfl) (by kernel_rfl) (by kernel_rfl)) ?_
  intro W base args ds gs before hval0 hW hcnd hsz0 _
  have hsz : (DataW.weightsEach Try.prog (Try.f4.params.toList ++ Rows.targetPrintsSpec.plain.varTypes Try.prog) (ds ++ gs)).all (· ≤ reachBytes) = true := hsz0
  have hval : ∀ (j : Nat) t v, Try.f4.params[j]? = some t → args[j]? = some v → Value.okWide Try.prog W .any base t v := hval0
  have hW' := hW
  obtain ⟨p, q, hA0, hV, rfl, hfz, hnd⟩ := hW
  have hA : DataW.TrodAll enc Try.prog W 0 (fun _ => true) true Try.f4.params.toList args.toList ds p := hA0
  rw [Try.params4] at hA hval hsz
  obtain ⟨v0, vs0, d0, ds0, p0, q0, hargs, rfl, rfl, h0, r0⟩ := trodAll_cons hA
  obtain ⟨rfl, rfl, rfl⟩ := trodAll_nil r0
  obtain rfl : args = #[v0] := by cases args; simp_all
  obtain ⟨rfl, rfl⟩ := trodVars_none hV
  have k0 := h0
  have lt0 : ∀ x ∈ p0, x.block < W.heap.size := by obtain ⟨m, hm⟩ := k0; exact DataW.trod_lt m _ _ _ hm
  obtain ⟨ff0, hh0, pp0, qq0, rfl, ok0⟩ := open_target (hval 0 23 v0 rfl rfl) k0 (fun n hn => by simpa using List.all_eq_true.1 hsz n (DataW.weights_mem_each (j := 0) (t := 23) rfl rfl n hn))
  clear hA0 hval0 hsz0 hsz
  refine (walk W ff0 hh0 pp0 qq0 ok0).mono fun e W' ⟨he, bel⟩ => ?_
  subst he
  exact ⟨_, rfl, _, _, _, [], _, [], hW', trodAll_mk1 (shut_bool Try.underlying4 _), (trodAll_cons_mk (Below.trod laidOut (by kernel_rfl) (of_decide_eq_true (by kernel_rfl)) k0 bel lt0) trodAll_mk0), rfl, bel.frame _, fun h => by cases h⟩

theorem over : Rows.targetPrintsRow.holds Try.pinned (OpenSpec.ofChange Rows.targetPrintsSpec) :=
  OpenClaim.holds_of_wide 4 Try.f4 rfl rfl rfl rfl rfl rfl rfl ⟨rfl, rfl, rfl, rfl, rfl⟩ rfl rfl rfl rfl rfl (by kernel_rfl) Try.func4 (by kernel_rfl)
    (of_decide_eq_true (by kernel_rfl)) (by unfold Func.isWrapper; first | (rw [if_pos (by decide +kernel)]; kernel_rfl) | (rw [if_neg (by decide +kernel)]; exact ⟨rfl, rfl⟩))
    (fun os started H enc _ => lifted os started H enc)

theorem proved : Rows.TargetPrintsSaid := over
end Go.Proofs.Ytgckpoecdaioiaa.targetPrints
