/- For every minor version and every list of fields, the code's Of answers as the document says, with no fields too: the law returns true. Condition: the library's tables are laid as its initialisers lay them. -/
import Derived.Test.YtcliapfoimnkiaaGreatDoorCards
import Derived.Test.YtcliapfoimnkiaaGreatDoorTie
import Derived.Lay
import Derived.LaidOnce
import Derived.MakeChecks
import Derived.SevenTiedAt
import Derived.WalkKit
import Derived.ProofKit
import Derived.OpenShut
import Derived.ShutString
import Derived.ChangeOld
import Derived.Below
import Derived.SizedLaws
import Derived.Test.YtcliapfoimnkiaaGreatDoorMhC
import Derived.Test.YtcliapfoimnkiaaGreatDoorFo10
import Derived.Carry

namespace Go.Proofs.YtcliapfoimnkiaaGreatDoor.framingOf
open Go.ChangeShapes Go.WideShapes Go.ChangeAt Go.RowKit
open Go.ChangeMaps (open_string shut_string)
set_option linter.unusedVariables false

set_option maxRecDepth 10000 in
set_option maxHeartbeats 4000000 in
theorem walk (W : World) (m : Int) (hm : (Lit.int .i64 m).wf = true) (r : FRow) (hr : r.Ok W) : Calls Tryz.prog 3 #[.int .i64 m, r.v] W fun e W' => e = .returned (.bool true) ∧ Below W.heap.size W W' := by
  have HH := Lib.hid (heavy_12 r W hr)
  obtain ⟨A, C, l⟩ := r
  have HR := Lib.hid hr.fs
  simp only [FRow.v] at HH HR ⊢
  have HF := Lib.hid (show ∀ w : World, Calls Tryz.prog 6 #[.int .i64 m, .pointer none] w (HAns w (frm m [])) from fun w => of_f (.inl ⟨rfl, rfl⟩) (by unfold Lite; simp [sizes]))
  have HRN := Lib.hid (show ∀ w : World, Calls Tryz.prog 7 #[.int .i64 m, .pointer none] w (HAns w (frm m [])) from fun w => of_rnil rfl (minN_max m).symm (minN_01 m))
  unfold HAns howV at HF HRN
  generalize frm m [] = rr at *
  obtain ⟨⟨k, ln, c, x⟩, s⟩ := rr
  simp only at HF HRN
  clear hr hm
  go_enter Tryz.func3, Tryz.ntmps3
  go_wp2_with fail
  refine HH.out.mono ?_
  rintro e w1 ⟨b, rfl, hl, hm1⟩
  have M1 := Lib.hid hm1
  clear hm1
  cases b with
  | true =>
    go_wp2
    go_ret
    exact ⟨rfl, M1.out.below⟩
  | false =>
    have HO := Lib.hid (fun w' (hm : Mods [] w1 w') => of_l m (.slice A l.length C) l w' ((HR.out.low M1.out).low hm) (hl rfl))
    clear hl
    have hss : (s == s) = true := by simp
    go_wp2_with (first
      | (go_at_call 6; refine (HF.out _).mono ?_; rintro e w2 ⟨rfl, hm⟩; have M2 := Lib.hid (hm.alloc (.cells #[.int .i64 k, .int .i64 ln, .bool c, .bool x] 25)); clear hm)
      | (go_at_call 7; refine (HRN.out _).mono ?_; rintro e w3 ⟨rfl, hm⟩; have R3 := Lib.hid (((Row.new w2 25 #[.int .i64 k, .int .i64 ln, .bool c, .bool x]).mods hm (by simp)).alloc (.cells #[.int .i64 k, .int .i64 ln, .bool c, .bool x] 28)); have M3 := Lib.hid ((M2.out.trans hm (fun _ h => nomatch h)).alloc (.cells #[.int .i64 k, .int .i64 ln, .bool c, .bool x] 28)); clear hm)
      | (go_at_call 8; refine (HO.out _ M3.out).mono ?_; rintro e w4 ⟨rfl, hm⟩; have R4 := R3.out.mods hm (by simp); have k0 := R4.cell 0; have k1 := R4.cell 1; have k2 := R4.cell 2; have k3 := R4.cell 3; have Q4 := (Row.new w3 28 #[.int .i64 k, .int .i64 ln, .bool c, .bool x]).mods hm (by simp); have j0 := Q4.cell 0; have j1 := Q4.cell 1; have j2 := Q4.cell 2; have j3 := Q4.cell 3; simp only [List.getElem?_toArray, List.getElem?_cons_zero, List.getElem?_cons_succ] at k0 k1 k2 k3 j0 j1 j2 j3; have M4 := Lib.hid ((M1.out.trans M3.out (fun _ h => nomatch h)).trans hm (fun _ h => nomatch h)); clear hm R4 Q4)
      | (go_at_call 9; refine (known_12 _).mono ?_; rintro e w5 ⟨rfl, hm⟩; have M5 := Lib.hid (M4.out.trans hm (fun _ h => nomatch h)); clear hm))
    go_ret
    exact ⟨rfl, M5.out.below⟩

theorem own : ownKnob Tryz.prog.godebug = none := by kernel_rfl
theorem laidOut : laidOutB Tryz.prog = true := by kernel_rfl
set_option maxRecDepth 100000 in
theorem lifted (os : Os) (started : os.Started) (H : Type) (enc : TypeId × Value → H) :
    ReturnsInHanded {} Tryz.checked os 3 .any (fun w args => (Rows.framingOfSpec.pre enc Tryz.prog Tryz.f3 [] false w args ∧ laidMetH Tryz.prog Rows.framingOfRow.laid w) ∧ sizedMet enc Tryz.prog Tryz.f3 (OpenSpec.ofChange Rows.framingOfSpec) false w args)
      (Rows.framingOfSpec.post enc Tryz.prog Tryz.f3 false true false false) := by
  refine returnsInHanded_of_change_and (C := Tryz.checked) (X := fun w _ => laidMetH Tryz.prog Rows.framingOfRow.laid w) (fun _ _ _ hh h => h.of_heap hh) own started (by kernel_rfl) Tryz.func3
    (ChangeSpec.witness_shaped (enc := enc) (C := Tryz.checked) (os := os) (X := fun w _ => laidMetH Tryz.prog Rows.framingOfRow.laid w) false (World.laidAll Tryz.prog os Rows.framingOfRow.laid) #[.int .i64 0, .slice none 0 0] 8 (World.laidAll_os _ _ _)
      (World.shaped_of_ZipB (by kernel_rfl) (by kernel_rfl)) (by kernel_rfl) (by kernel_rfl) (by kernel_rfl)
      (by rw [MakeChecks.laidMetH_plain _ _ _ (by kernel_rfl)]; exact laidMet_laidAll _ (by kernel_rfl) (by kernel_rfl))) ?_
  intro W base args ds gs before hval0 hW hcnd hsz0 hL _
  have hsz : (DataW.weightsEach Tryz.prog (Tryz.f3.params.toList ++ Rows.framingOfSpec.plain.varTypes Tryz.prog) (ds ++ gs)).all (· ≤ reachBytes) = true := hsz0
  have hval : ∀ (j : Nat) t v, Tryz.f3.params[j]? = some t → args[j]? = some v → Value.okWide Tryz.prog W .any base t v := hval0
  have hW' := hW
  obtain ⟨p, q, hA0, hV, rfl, hfz, hnd⟩ := hW
  have hA : DataW.TrodAll enc Tryz.prog W 0 (fun _ => true) true Tryz.f3.params.toList args.toList ds p := hA0
  rw [Tryz.params3] at hA hval hsz
  obtain ⟨v0, vs0, d0, ds0, p0, q0, hargs, rfl, rfl, h0, r0⟩ := trodAll_cons hA
  obtain ⟨v1, vs1, d1, ds1, p1, q1, rfl, rfl, rfl, h1, r1⟩ := trodAll_cons r0
  obtain ⟨rfl, rfl, rfl⟩ := trodAll_nil r1
  obtain rfl : args = #[v0, v1] := by cases args; simp_all
  obtain ⟨rfl, rfl⟩ := trodVars_none hV
  obtain ⟨a0, rfl, rfl, rfl, w0⟩ := open_int Tryz.underlying3 (hval 0 3 v0 rfl rfl) h0
  have k1 := h1
  have lt1 : ∀ x ∈ p1, x.block < W.heap.size := by obtain ⟨m, hm⟩ := k1; exact DataW.trod_lt m _ _ _ hm
  obtain ⟨fr1, rfl, o1⟩ := open_fs (hval 1 22 v1 rfl rfl) k1 (fun n hn => by simpa using List.all_eq_true.1 hsz n (DataW.weights_mem_each (j := 1) (t := 22) rfl rfl n hn))
  clear hA0 hval0 hsz0 hsz
  refine (walk W a0 w0 fr1 o1).mono fun e W' ⟨he, bel⟩ => ?_
  subst he
  exact ⟨_, rfl, _, _, _, [], _, [], hW', trodAll_mk1 (shut_bool Tryz.underlying4 _), (trodAll_cons_mk (shut_int Tryz.underlying3 w0) (trodAll_cons_mk (Below.trod laidOut (by kernel_rfl) (of_decide_eq_true (by kernel_rfl)) k1 bel lt1) trodAll_mk0)), rfl, bel.frame _, fun h => by cases h⟩

theorem over : Rows.framingOfRow.holds Tryz.pinned (OpenSpec.ofChange Rows.framingOfSpec) :=
  OpenClaim.holds_of_wide 3 Tryz.f3 rfl rfl rfl rfl rfl rfl rfl ⟨rfl, rfl, rfl, rfl, rfl⟩ rfl rfl rfl rfl rfl (by kernel_rfl) Tryz.func3 (by kernel_rfl)
    (of_decide_eq_true (by kernel_rfl)) (by unfold Func.isWrapper; first | (rw [if_pos (by decide +kernel)]; kernel_rfl) | (rw [if_neg (by decide +kernel)]; exact ⟨rfl, rfl⟩))
    (fun os started H enc _ => lifted os started H enc)

theorem said : Rows.FramingOfSaid := over
theorem plain (f : FuncId) (fn : Func) (hf : Tryz.pinned.checked.prog.funcNamed "usher/usherlaw12.FramingOf" = some f) (hfn : Tryz.pinned.checked.prog.funcs[f]? = some fn) :
    false = Tryz.pinned.checked.prog.looks [] ∧ ∀ (j : Nat) t, fn.params[j]? = some t → Tryz.pinned.checked.prog.wantsStandIn t = false := by
  obtain rfl : f = 3 := Option.some.inj ((show Tryz.prog.funcNamed "usher/usherlaw12.FramingOf" = some 3 by kernel_rfl).symm.trans hf) |>.symm
  obtain rfl : fn = Tryz.f3 := (Option.some.inj (Tryz.func3.symm.trans hfn)).symm
  refine ⟨by kernel_rfl, fun j t ht => ?_⟩
  rw [Tryz.params3] at ht
  have hm : t ∈ [3, 22] := by simpa using Array.mem_of_getElem? ht
  simp only [List.mem_cons, List.mem_nil_iff, or_false] at hm
  rcases hm with rfl | rfl
  · exact (show Tryz.prog.wantsStandIn 3 = false by kernel_rfl)
  · exact (show Tryz.prog.wantsStandIn 22 = false by kernel_rfl)
theorem proved : Rows.FramingOfCardSaid :=
  Claim7.holds_tied_plain_at .later [] _ _ _ _ said (fun _ h => by cases h) (by kernel_rfl) (fun _ h => by cases h) framingOf_row_tie rfl ⟨rfl, rfl⟩ (by kernel_rfl) rfl plain (by kernel_rfl)
end Go.Proofs.YtcliapfoimnkiaaGreatDoor.framingOf
