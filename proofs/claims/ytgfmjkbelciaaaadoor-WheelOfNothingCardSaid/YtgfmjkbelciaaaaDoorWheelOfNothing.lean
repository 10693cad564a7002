/- For every handle and number, a nil wheel refuses Add and Reset with ErrArg, says ErrStale to Where, cancels and fires nothing, has no next time, no timer and no time, and the known example holds: the law returns true. Condition: the library's table of 64 is laid as its initialiser lays it. -/
import Derived.Test.YtgfmjkbelciaaaaDoorCards
import Derived.Test.YtgfmjkbelciaaaaDoorTie
import Derived.Lay
import Derived.LaidOnce
import Derived.MakeChecks
import Derived.SevenTiedAt
import Derived.WalkKit
import Derived.ProofKit
import Derived.OpenShut
import Derived.ShutString
import Derived.ChangeOld
import Derived.Below
import Derived.SizedLaws
import Derived.Test.YtgfmjkbelciaaaaDoorWhKn
import Derived.Test.YtgfmjkbelciaaaaDoorOpenH
import Derived.Test.YtgfmjkbelciaaaaDoorTz2
import Derived.Carry

namespace Go.Proofs.YtgfmjkbelciaaaaDoor.wheelOfNothing
open Go.ChangeShapes Go.WideShapes Go.ChangeAt Go.RowKit
open Go.ChangeMaps (open_string shut_string)
set_option linter.unusedVariables false
set_option maxRecDepth 100000
set_option linter.unusedSimpArgs false
set_option maxHeartbeats 1000000 in
theorem walk0 (a b n : Int) (ha : I64 a) (hb : I64 b) (w : World) (ht : TzTab w) :
    Calls Tryd.prog 6 #[.agg #[.int .i64 a, .int .i64 b], .int .i64 n] w fun e w' => e = .returned (.bool true) ∧ Below w.heap.size w w' := by
  have HT := Lib.hid ht
  have HI := Lib.hid (And.intro ha hb)
  clear ht ha hb
  go_enter Tryd.func6, Tryd.ntmps6
  go_wp2_with fail
  refine (add_nil n 1 _).mono ?_
  rintro e w1 ⟨rfl, hm⟩
  have b0 := cell_new hm (by simp) 0
  have b1 := cell_new hm (by simp) 1
  have M1 := Lib.hid (((Mods.refl [] w).alloc _).trans hm (by simp))
  have b0a := fun o => cell_alloc b0 o
  have b1a := fun o => cell_alloc b1 o
  clear hm
  go_wp2_with fail
  refine (where_nil a b _).mono ?_
  rintro e w2 ⟨rfl, hm⟩
  have a0 := cell_new hm (by simp) 0
  have a1 := cell_new hm (by simp) 1
  have b0 := cell_mods (b0a _) hm (by simp)
  have b1 := cell_mods (b1a _) hm (by simp)
  have M2 := Lib.hid ((M1.out.alloc _).trans hm (by simp))
  clear hm b0a b1a
  go_wp2_with fail
  refine (wnext_nil _).mono ?_
  rintro e w3 ⟨rfl, rfl⟩
  go_wp2_with fail
  refine (reset_nil a b n _).mono ?_
  rintro e w3 ⟨rfl, hm⟩
  have b0 := cell_mods b0 hm (by simp)
  have b1 := cell_mods b1 hm (by simp)
  have M3 := Lib.hid (M2.out.trans hm (by simp))
  clear hm
  go_wp2_with fail
  refine (cancel_nil (w3.alloc _) w3.heap.size 1 [(a, b)] (by simp) (pairs_row (Row.new w3 _ _) rfl (by simpa [I64] using HI.out))).mono ?_
  rintro e w4 ⟨rfl, hm⟩
  have M4 := Lib.hid ((M3.out.alloc _).trans hm (by simp))
  clear hm
  go_wp2_with fail
  refine (adv_nil n _).mono ?_
  rintro e w5 ⟨rfl, rfl⟩
  go_wp2_with fail
  refine (wlen_nil _).mono ?_
  rintro e w6 ⟨rfl, rfl⟩
  go_wp2_with fail
  refine (wnow_nil _).mono ?_
  rintro e w7 ⟨rfl, rfl⟩
  go_wp2_with fail
  refine (known_any _ (HT.out.mods M4.out (by simp))).mono ?_
  rintro e w8 ⟨rfl, hm⟩
  have M5 := Lib.hid (M4.out.trans hm (by simp))
  clear hm
  go_wp2
  go_ret
  exact ⟨rfl, M5.out.below⟩
theorem walk (a b : Int) (ha : I64 a) (hb : I64 b) (n : Int) (wf : (Lit.int .i64 n).wf = true) (w : World) (hL : laidMetH Tryd.prog Rows.wheelOfNothingRow.laid w) :
    Calls Tryd.prog 6 #[.agg #[.int .i64 a, .int .i64 b], .int .i64 n] w fun e w' => e = .returned (.bool true) ∧ Below w.heap.size w w' := by
  rw [MakeChecks.laidMetH_plain _ _ _ (by kernel_rfl)] at hL
  exact walk0 a b n ha hb w (tz_of hL rfl)


theorem own : ownKnob Tryd.prog.godebug = none := by kernel_rfl
theorem laidOut : laidOutB Tryd.prog = true := by kernel_rfl
set_option maxRecDepth 100000 in
theorem lifted (os : Os) (started : os.Started) (H : Type) (enc : TypeId × Value → H) :
    ReturnsInHanded {} Tryd.checked os 6 .any (fun w args => (Rows.wheelOfNothingSpec.pre enc Tryd.prog Tryd.f6 [] false w args ∧ laidMetH Tryd.prog Rows.wheelOfNothingRow.laid w) ∧ sizedMet enc Tryd.prog Tryd.f6 (OpenSpec.ofChange Rows.wheelOfNothingSpec) false w args)
      (Rows.wheelOfNothingSpec.post enc Tryd.prog Tryd.f6 false true false false) := by
  refine returnsInHanded_of_change_and (C := Tryd.checked) (X := fun w _ => laidMetH Tryd.prog Rows.wheelOfNothingRow.laid w) (fun _ _ _ hh h => h.of_heap hh) own started (by kernel_rfl) Tryd.func6
    (ChangeSpec.witness_shaped (enc := enc) (C := Tryd.checked) (os := os) (X := fun w _ => laidMetH Tryd.prog Rows.wheelOfNothingRow.laid w) false (World.laidAll Tryd.prog os Rows.wheelOfNothingRow.laid) #[.agg #[.int .i64 0, .int .i64 0], .int .i64 0] 8 (World.laidAll_os _ _ _)
      (World.shaped_of_ZipB (by kernel_rfl) (by kernel_rfl)) (by kernel_rfl) (by kernel_rfl) (by kernel_rfl)
      (by rw [MakeChecks.laidMetH_plain _ _ _ (by kernel_rfl)]; exact laidMet_laidAll _ (by kernel_rfl) (by kernel_rfl))) ?_
  intro W base args ds gs before hval0 hW hcnd hsz0 hL _
  have hsz : (DataW.weightsEach Tryd.prog (Tryd.f6.params.toList ++ Rows.wheelOfNothingSpec.plain.varTypes Tryd.prog) (ds ++ gs)).all (· ≤ reachBytes) = true := hsz0
  have hval : ∀ (j : Nat) t v, Tryd.f6.params[j]? = some t → args[j]? = some v → Value.okWide Tryd.prog W .any base t v := hval0
  have hW' := hW
  obtain ⟨p, q, hA0, hV, rfl, hfz, hnd⟩ := hW
  have hA : DataW.TrodAll enc Tryd.prog W 0 (fun _ => true) true Tryd.f6.params.toList args.toList ds p := hA0
  rw [Tryd.params6] at hA hval hsz
  obtain ⟨v0, vs0, d0, ds0, p0, q0, hargs, rfl, rfl, h0, r0⟩ := trodAll_cons hA
  obtain ⟨v1, vs1, d1, ds1, p1, q1, rfl, rfl, rfl, h1, r1⟩ := trodAll_cons r0
  obtain ⟨rfl, rfl, rfl⟩ := trodAll_nil r1
  obtain rfl : args = #[v0, v1] := by cases args; simp_all
  obtain ⟨rfl, rfl⟩ := trodVars_none hV
  have k0 := h0
  have lt0 : ∀ x ∈ p0, x.block < W.heap.size := by obtain ⟨m, hm⟩ := k0; exact DataW.trod_lt m _ _ _ hm
  obtain ⟨a0, b0, rfl, wa0, wb0⟩ := open_handle (hval 0 32 v0 rfl rfl) k0
  obtain ⟨a1, rfl, rfl, rfl, w1⟩ := open_int Tryd.underlying3 (hval 1 3 v1 rfl rfl) h1
  clear hA0 hval0 hsz0 hsz
  refine (walk a0 b0 wa0 wb0 a1 w1 W hL).mono fun e W' ⟨he, bel⟩ => ?_
  subst he
  exact ⟨_, rfl, _, _, _, [], _, [], hW', trodAll_mk1 (shut_bool Tryd.underlying4 _), (trodAll_cons_mk (Below.trod laidOut (by kernel_rfl) (of_decide_eq_true (by kernel_rfl)) k0 bel lt0) (trodAll_cons_mk (shut_int Tryd.underlying3 w1) trodAll_mk0)), rfl, bel.frame _, fun h => by cases h⟩

theorem over : Rows.wheelOfNothingRow.holds Tryd.pinned (OpenSpec.ofChange Rows.wheelOfNothingSpec) :=
  OpenClaim.holds_of_wide 6 Tryd.f6 rfl rfl rfl rfl rfl rfl rfl ⟨rfl, rfl, rfl, rfl, rfl⟩ rfl rfl rfl rfl rfl (by kernel_rfl) Tryd.func6 (by kernel_rfl)
    (of_decide_eq_true (by kernel_rfl)) (by unfold Func.isWrapper; first | (rw [if_pos (by decide +kernel)]; kernel_rfl) | (rw [if_neg (by decide +kernel)]; exact ⟨rfl, rfl⟩))
    (fun os started H enc _ => lifted os started H enc)

theorem said : Rows.WheelOfNothingSaid := over
theorem plain (f : FuncId) (fn : Func) (hf : Tryd.pinned.checked.prog.funcNamed "usher/usherlaw6.WheelOfNothing" = some f) (hfn : Tryd.pinned.checked.prog.funcs[f]? = some fn) :
    false = Tryd.pinned.checked.prog.looks [] ∧ ∀ (j : Nat) t, fn.params[j]? = some t → Tryd.pinned.checked.prog.wantsStandIn t = false := by
  obtain rfl : f = 6 := Option.some.inj ((show Tryd.prog.funcNamed "usher/usherlaw6.WheelOfNothing" = some 6 by kernel_rfl).symm.trans hf) |>.symm
  obtain rfl : fn = Tryd.f6 := (Option.some.inj (Tryd.func6.symm.trans hfn)).symm
  refine ⟨by kernel_rfl, fun j t ht => ?_⟩
  rw [Tryd.params6] at ht
  have hm : t ∈ [32, 3] := by simpa using Array.mem_of_getElem? ht
  simp only [List.mem_cons, List.mem_nil_iff, or_false] at hm
  rcases hm with rfl | rfl
  · exact (show Tryd.prog.wantsStandIn 32 = false by kernel_rfl)
  · exact (show Tryd.prog.wantsStandIn 3 = false by kernel_rfl)
theorem proved : Rows.WheelOfNothingCardSaid :=
  Claim7.holds_tied_plain_at .later [] _ _ _ _ said (fun _ h => by cases h) (by kernel_rfl) (fun _ h => by cases h) wheelOfNothing_row_tie rfl ⟨rfl, rfl⟩ (by kernel_rfl) rfl plain (by kernel_rfl)
end Go.Proofs.YtgfmjkbelciaaaaDoor.wheelOfNothing
