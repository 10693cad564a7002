/- For every start line and every number of empty lines ahead of it, the code's head tells what the document says: the law returns true. Condition: the library's tables are laid as its initialisers lay them. -/
import Derived.Test.YtjoineomkdiekaaGreatDoorCards
import Derived.Test.YtjoineomkdiekaaGreatDoorTie
import Derived.Lay
import Derived.LaidOnce
import Derived.MakeChecks
import Derived.SevenTiedAt
import Derived.WalkKit
import Derived.ProofKit
import Derived.OpenShut
import Derived.ShutString
import Derived.ChangeOld
import Derived.Below
import Derived.SizedLaws
import Derived.Test.YtjoineomkdiekaaGreatDoorMQF
import Derived.Carry
import Derived.Deep.CutBlock
namespace Go.Proofs.YtjoineomkdiekaaGreatDoor.headStarts
open Go.ChangeShapes Go.WideShapes Go.ChangeAt Go.RowKit
open Go.ChangeMaps (open_string shut_string)
set_option linter.unusedVariables false

set_option maxRecDepth 10000 in
set_option maxHeartbeats 2000000 in
theorem walk (w : World) (s : ByteArray) (hs : s.size ≤ 140737488351232) (m : Int) (hm : (Lit.int .i64 m).wf = true) :
    Calls Tryz.prog 4 #[.string s, .int .i64 m] w fun e w' => e = .returned (.bool true) ∧ Below w.heap.size w w' := by
  by_cases hl : 600 < s.size
  · have g1 : (600 : Int) < (s.size : Int) := by omega
    clear hl
    go_enter Tryz.func4, Tryz.ntmps4
    go_wp2
    go_ret
    exact ⟨rfl, Below.refl _ _⟩
  have g1 : decide ((600 : Int) < (s.size : Int)) = false := by simp; omega
  by_cases hneg : m < 0
  · clear hl
    go_enter Tryz.func4, Tryz.ntmps4
    go_wp2
    go_ret
    exact ⟨rfl, Below.refl _ _⟩
  by_cases hbig : 10 < m
  · have g2 : decide (m < 0) = false := by simp; omega
    clear hl hneg
    go_enter Tryz.func4, Tryz.ntmps4
    go_wp2
    go_ret
    exact ⟨rfl, Below.refl _ _⟩
  obtain ⟨e, rfl⟩ : ∃ e : Nat, m = (e : Int) := ⟨m.toNat, by omega⟩
  have he : e ≤ 10 := by omega
  have g2 : decide ((e : Int) < 0) = false := by simp
  have g3 : decide ((10 : Int) < (e : Int)) = false := by simp; omega
  have HP := Lib.hid (fun vl W (h : SsAt W vl (List.replicate e noB ++ [s, g2B, noB])) => play_l (List.replicate e noB ++ [s, g2B, noB]) vl W h (by rw [List.length_append, List.length_replicate]; simp only [List.length_cons, List.length_nil]; omega) (fun x hx => by
    rcases List.mem_append.1 hx with hx | hx
    · rw [(List.mem_replicate.1 hx).2]; decide
    · simp only [List.mem_cons, List.not_mem_nil, or_false] at hx
      rcases hx with rfl | rfl | rfl
      · omega
      · decide
      · decide))
  have HSL := Lib.hid (starts_law (e := e) (l := [s, g2B, noB]))
  have HLN := Lib.hid (show (List.replicate e noB ++ [s, g2B, noB]).length = e + 3 by rw [List.length_append, List.length_replicate]; rfl)
  have HRS := Lib.hid (fun k => show List.replicate (k + 1) noB = List.replicate k noB ++ [noB] from List.replicate_succ')
  clear hl hneg hbig hm
  go_enter Tryz.func4, Tryz.ntmps4
  go_wp2
  go_loopw [5, 6] (fun l i wr => ∃ (k : Nat), k ≤ e ∧ i = .int .i64 k ∧ Gt w 9 1 k (encS (List.replicate k noB)) l wr) (fun _ i _ => e - (intOf i).toNat)
  case atStart => exact ⟨0, Nat.zero_le _, rfl, Gt.nil _ _ _⟩
  case round =>
    obtain ⟨k, hk, rfl, hG⟩ := hrel
    obtain ⟨va, vc, rfl⟩ := hG.form
    by_cases hlt : k < e
    · obtain ⟨g5, n5, c5, w3, hrun, hG5⟩ := hG.appN [noB] 1 rfl (by decide) (by omega)
      have HG5 := Lib.hid hG5
      change (Builtin.append_ _ _ _).run _ (wr.alloc (.cells #[.string ⟨#[]⟩] 9)) = _ at hrun
      clear hG hG5
      go_wp2_with (at_builtin; refine wpList_run_appF rfl (.tmp 26) (.tmp 27) 22 rfl rfl rfl hrun ?_)
      go_roundw
      case rel => exact ⟨k + 1, by omega, by go_num, by rw [HRS.out]; exact HG5.out⟩
      case measure => simp [intOf]; omega
    · obtain rfl : k = e := by omega
      obtain ⟨g5, n5, c5, w3, hrun, hG5⟩ := hG.appN [s, g2B, noB] 3 rfl (by decide) (by omega)
      rw [← HLN.out] at hG5
      have HG5 := Lib.hid hG5
      have HP2 := Lib.hid (HP.out _ _ hG5.ss13)
      change (Builtin.append_ _ _ _).run _ (wr.alloc (.cells #[.string s, .string ⟨#[72, 111, 115, 116, 58, 32, 97]⟩, .string ⟨#[]⟩] 9)) = _ at hrun
      clear hG hG5 HP HLN HRS
      generalize playP newH (List.replicate k noB ++ [s, g2B, noB]) = h' at *
      go_upto_region 10 with (first
        | (at_builtin; refine wpList_run_appF rfl (.tmp 29) (.tmp 31) 22 rfl rfl rfl hrun ?_)
        | (go_at_call 8; refine HP2.out.mono ?_; rintro e w4 hq; obtain ⟨hb, xb, F, G, rfl, hB⟩ := hq.out; have HB := Lib.hid hB; have M4 := Lib.hid (HG5.out.low.on hB.low); clear hq hB; unfold ptr))
      obtain ⟨vx, z2, e2, cx, -, -⟩ := HB.out.x.ex
      have x12 : w4.cell? ⟨xb, 12, none⟩ = some (.bool h'.whole) := (HdX.row' cx).cell 12
      clear cx hrun
      cases hw : h'.whole with
      | true =>
        rw [hw] at x12
        have h4 : (k : Int) ≤ 4 := by have := HSL.out hw; omega
        go_wp2_with (go_at_call 9; refine (known_13 _).mono ?_; rintro e w5 ⟨rfl, hm⟩; have M5 := Lib.hid (M4.out.on hm); clear hm)
        go_ret
        exact ⟨rfl, M5.out.below⟩
      | false =>
        rw [hw] at x12
        go_wp2_with (go_at_call 9; refine (known_13 _).mono ?_; rintro e w5 ⟨rfl, hm⟩; have M5 := Lib.hid (M4.out.on hm); clear hm)
        go_ret
        exact ⟨rfl, M5.out.below⟩

theorem own : ownKnob Tryz.prog.godebug = none := by kernel_rfl
theorem laidOut : laidOutB Tryz.prog = true := by kernel_rfl
set_option maxRecDepth 100000 in
theorem lifted (os : Os) (started : os.Started) (H : Type) (enc : TypeId × Value → H) :
    ReturnsInHanded {} Tryz.checked os 4 .any (fun w args => (Rows.headStartsSpec.pre enc Tryz.prog Tryz.f4 [] false w args ∧ laidMetH Tryz.prog Rows.headStartsRow.laid w) ∧ sizedMet enc Tryz.prog Tryz.f4 (OpenSpec.ofChange Rows.headStartsSpec) false w args)
      (Rows.headStartsSpec.post enc Tryz.prog Tryz.f4 false true false false) := by
  refine returnsInHanded_of_change_and (C := Tryz.checked) (X := fun w _ => laidMetH Tryz.prog Rows.headStartsRow.laid w) (fun _ _ _ hh h => h.of_heap hh) own started (by kernel_rfl) Tryz.func4
    (ChangeSpec.witness_shaped (enc := enc) (C := Tryz.checked) (os := os) (X := fun w _ => laidMetH Tryz.prog Rows.headStartsRow.laid w) false (World.laidAll Tryz.prog os Rows.headStartsRow.laid) #[.string ByteArray.empty, .int .i64 0] 8 (World.laidAll_os _ _ _)
      (World.shaped_of_ZipB (by kernel_rfl) (by kernel_rfl)) (by kernel_rfl) (by kernel_rfl) (by kernel_rfl)
      (by rw [MakeChecks.laidMetH_plain _ _ _ (by kernel_rfl)]; exact laidMet_laidAll _ (by kernel_rfl) (by kernel_rfl))) ?_
  intro W base args ds gs before hval0 hW hcnd hsz0 hL _
  have hsz : (DataW.weightsEach Tryz.prog (Tryz.f4.params.toList ++ Rows.headStartsSpec.plain.varTypes Tryz.prog) (ds ++ gs)).all (· ≤ reachBytes) = true := hsz0
  have hval : ∀ (j : Nat) t v, Tryz.f4.params[j]? = some t → args[j]? = some v → Value.okWide Tryz.prog W .any base t v := hval0
  have hW' := hW
  obtain ⟨p, q, hA0, hV, rfl, hfz, hnd⟩ := hW
  have hA : DataW.TrodAll enc Tryz.prog W 0 (fun _ => true) true Tryz.f4.params.toList args.toList ds p := hA0
  rw [Tryz.params4] at hA hval hsz
  obtain ⟨v0, vs0, d0, ds0, p0, q0, hargs, rfl, rfl, h0, r0⟩ := trodAll_cons hA
  obtain ⟨v1, vs1, d1, ds1, p1, q1, rfl, rfl, rfl, h1, r1⟩ := trodAll_cons r0
  obtain ⟨rfl, rfl, rfl⟩ := trodAll_nil r1
  obtain rfl : args = #[v0, v1] := by cases args; simp_all
  obtain ⟨rfl, rfl⟩ := trodVars_none hV
  obtain ⟨a0, rfl, rfl, rfl, w0⟩ := open_string Tryz.underlying9 (hval 0 9 v0 rfl rfl) h0
  have g0 : a0.size ≤ 140737488351232 := sized_string hsz (j := 0) (t := 9) rfl rfl
  obtain ⟨a1, rfl, rfl, rfl, w1⟩ := open_int Tryz.underlying3 (hval 1 3 v1 rfl rfl) h1
  clear hA0 hval0 hsz0 hsz
  refine (walk W a0 g0 a1 w1).mono fun e W' ⟨he, bel⟩ => ?_
  subst he
  exact ⟨_, rfl, _, _, _, [], _, [], hW', trodAll_mk1 (shut_bool Tryz.underlying4 _), (trodAll_cons_mk (shut_string Tryz.underlying9 w0) (trodAll_cons_mk (shut_int Tryz.underlying3 w1) trodAll_mk0)), rfl, bel.frame _, fun h => by cases h⟩

theorem over : Rows.headStartsRow.holds Tryz.pinned (OpenSpec.ofChange Rows.headStartsSpec) :=
  OpenClaim.holds_of_wide 4 Tryz.f4 rfl rfl rfl rfl rfl rfl rfl ⟨rfl, rfl, rfl, rfl, rfl⟩ rfl rfl rfl rfl rfl (by kernel_rfl) Tryz.func4 (by kernel_rfl)
    (of_decide_eq_true (by kernel_rfl)) (by unfold Func.isWrapper; first | (rw [if_pos (by decide +kernel)]; kernel_rfl) | (rw [if_neg (by decide +kernel)]; exact ⟨rfl, rfl⟩))
    (fun os started H enc _ => lifted os started H enc)

theorem said : Rows.HeadStartsSaid := over
theorem plain (f : FuncId) (fn : Func) (hf : Tryz.pinned.checked.prog.funcNamed "usher/usherlaw13.HeadStarts" = some f) (hfn : Tryz.pinned.checked.prog.funcs[f]? = some fn) :
    false = Tryz.pinned.checked.prog.looks [] ∧ ∀ (j : Nat) t, fn.params[j]? = some t → Tryz.pinned.checked.prog.wantsStandIn t = false := by
  obtain rfl : f = 4 := Option.some.inj ((show Tryz.prog.funcNamed "usher/usherlaw13.HeadStarts" = some 4 by kernel_rfl).symm.trans hf) |>.symm
  obtain rfl : fn = Tryz.f4 := (Option.some.inj (Tryz.func4.symm.trans hfn)).symm
  refine ⟨by kernel_rfl, fun j t ht => ?_⟩
  rw [Tryz.params4] at ht
  have hm : t ∈ [9, 3] := by simpa using Array.mem_of_getElem? ht
  simp only [List.mem_cons, List.mem_nil_iff, or_false] at hm
  rcases hm with rfl | rfl
  · exact (show Tryz.prog.wantsStandIn 9 = false by kernel_rfl)
  · exact (show Tryz.prog.wantsStandIn 3 = false by kernel_rfl)
theorem proved : Rows.HeadStartsCardSaid :=
  Claim7.holds_tied_plain_at .later [] _ _ _ _ said (fun _ h => by cases h) (by kernel_rfl) (fun _ h => by cases h) headStarts_row_tie rfl ⟨rfl, rfl⟩ (by kernel_rfl) rfl plain (by kernel_rfl)
end Go.Proofs.YtjoineomkdiekaaGreatDoor.headStarts
