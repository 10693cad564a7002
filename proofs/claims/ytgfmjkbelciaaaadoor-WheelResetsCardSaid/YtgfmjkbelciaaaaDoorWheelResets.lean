/- For every three times, a timer that is set anew fires at its new time alone: the law returns true. Condition: the library's table of 64 is laid as its initialiser lays it. -/
import Derived.Test.YtgfmjkbelciaaaaDoorCards
import Derived.Test.YtgfmjkbelciaaaaDoorTie
import Derived.Lay
import Derived.LaidOnce
import Derived.MakeChecks
import Derived.SevenTiedAt
import Derived.WalkKit
import Derived.ProofKit
import Derived.OpenShut
import Derived.ShutString
import Derived.ChangeOld
import Derived.Below
import Derived.SizedLaws
import Derived.Test.YtgfmjkbelciaaaaDoorWhKn
import Derived.Test.YtgfmjkbelciaaaaDoorTz2
import Derived.Carry

namespace Go.Proofs.YtgfmjkbelciaaaaDoor.wheelResets
open Go.ChangeShapes Go.WideShapes Go.ChangeAt Go.RowKit
open Go.ChangeMaps (open_string shut_string)
set_option linter.unusedVariables false
set_option maxRecDepth 100000
set_option linter.unusedSimpArgs false
theorem fire1 (t b s g a : Nat) (h : t < a) : fireT t [(⟨b, s, g, a⟩ : Tm)] = [] ∧ leftT t [(⟨b, s, g, a⟩ : Tm)] = [⟨b, s, g, a⟩] := by
  constructor
  · unfold fireT
    rw [List.filter_cons, if_neg (by simp; omega)]; rfl
  · unfold leftT
    rw [List.filter_cons, if_pos (by simp; omega)]; rfl
theorem fire2 (t b s g a : Nat) (h : a ≤ t) : fireT t [(⟨b, s, g, a⟩ : Tm)] = [⟨b, s, g, a⟩] ∧ leftT t [(⟨b, s, g, a⟩ : Tm)] = [] := by
  constructor
  · unfold fireT
    rw [List.filter_cons, if_pos (by simp; omega)]; rfl
  · unfold leftT
    rw [List.filter_cons, if_neg (by simp; omega)]; rfl
theorem res1 (b s g a n : Nat) : resT [(⟨b, s, g, a⟩ : Tm)] ⟨b, s, g, a⟩ n = [⟨b, s, g, n⟩] := by
  unfold resT woT
  rw [List.filter_cons, if_neg (by simp)]; rfl
theorem min1 (b s g a : Nat) : minT [(⟨b, s, g, a⟩ : Tm)] = a := by simp [minT]
theorem what1 (v : Int) (b a : Nat) : whatT ((Slb.new 4096).put v) [(⟨b, 0, 1, a⟩ : Tm)] = [v] := by rfl
set_option maxHeartbeats 2000000 in
theorem inner (first second between : Nat) (h1 : 1 ≤ first) (h2 : first ≤ 1073741824) (h3 : 1 ≤ second) (h4 : second ≤ 1073741824) (h5 : between < first) (h6 : between < second) (w : World) (ht : TzTab w) :
    Calls Tryd.prog 8 #[.int .i64 (first : Int), .int .i64 (second : Int), .int .i64 (between : Int)] w fun e w' => e = .returned (.bool true) ∧ Below w.heap.size w w' := by
  have HT := Lib.hid ht
  have he := eql_whl
  clear ht
  have g1 : ¬ (first : Int) < 1 := by omega
  have g2 : ¬ 1073741824 < (first : Int) := by omega
  have g3 : ¬ (second : Int) < 1 := by omega
  have g4 : ¬ 1073741824 < (second : Int) := by omega
  have g5 : ¬ (between : Int) < 0 := by omega
  have g6 : ¬ (first : Int) ≤ (between : Int) := by omega
  have g7 : ¬ (second : Int) ≤ (between : Int) := by omega
  have q1 : IntKind.i64.wrap ((second : Int) - 1) = (second : Int) - 1 := by rw [IntKind.wrap_i64]; omega
  have q2 : IntKind.i64.wrap (max (first : Int) (second : Int) + 1) = max (first : Int) (second : Int) + 1 := by rw [IntKind.wrap_i64]; omega
  go_enter Tryd.func8, Tryd.ntmps8
  go_wp2_with fail
  refine (new_as w 0 (Mods.refl [] w) (by omega)).mono ?_
  rintro e w1 ⟨g, rfl, hf⟩
  obtain ⟨F1, hh, -, -⟩ := hf.out
  have H1 := Lib.hid hh
  clear hf hh
  go_wp2_with fail
  refine (add_as w1 g first 3 F1 _ 0 0 [] 0 1 H1.out HT.out (by omega) (by decide) (by omega) (by rw [k_least]; rfl) (by rw [k_gen]; rfl)).mono ?_
  rintro e w2 ⟨rfl, hf⟩
  obtain ⟨F2, b, hh, -⟩ := hf.out
  rw [k_least, k_gen, List.nil_append] at hh
  have H2 := Lib.hid hh
  clear hf hh
  go_wp2_with fail
  have H2a := Lib.hid (H2.out.step ((Mods.refl [] w2).alloc (.cells #[.int .i64 0, .int .i64 1] 32)))
  refine (adv_as _ g F2 _ _ 0 between between _ H2a.out (by omega) (by omega)).mono ?_
  rintro e w3 ⟨v3, rfl, hf⟩
  obtain ⟨F3, hh, -, m3, -⟩ := hf.out
  rw [(fire1 between b 0 1 first h5).1] at hh
  rw [(fire1 between b 0 1 first h5).2] at hh
  have H3 := Lib.hid hh
  have c0 := cell_new m3 (H2a.out.wh.far_hand (Row.new w2 _ _)) 0
  have c1 := cell_new m3 (H2a.out.wh.far_hand (Row.new w2 _ _)) 1
  clear hf hh m3
  go_wp2_with fail
  refine (reset_yes w3 g second F3 _ _ between _ ⟨b, 0, 1, first⟩ H3.out.wh (by omega) (by simp)).mono ?_
  rintro e w4 ⟨rfl, hf⟩
  have H4 := Lib.hid (show ∃ F4, Held w w4 g F4 (takeL ((Slb.new 4096).put 3) []) (0 + 1) between [⟨b, 0, 1, second⟩] from by
    obtain ⟨F4, q1, q2, q3⟩ := hf.out
    rw [res1] at q1
    exact ⟨F4, H3.out.turn q1 (fun k hk => .inl ((q3 k).1 hk)) q2⟩)
  clear hf c0 c1
  obtain ⟨F4, hh⟩ := H4.out
  have H4 := Lib.hid hh
  clear hh
  have HN := Lib.hid (wnext_any w4 g F4 _ _ between _ H4.out.wh)
  rw [min1] at HN
  go_wp2_with fail
  refine HN.out.mono ?_
  rintro e w5 ⟨rfl, rfl⟩
  go_wp2_with fail
  refine (adv_as w4 g F4 _ _ between (second - 1) _ _ H4.out (by omega) (by omega)).mono ?_
  rintro e w5 ⟨v5, rfl, hf⟩
  obtain ⟨F5, hh, o5, m5, n5⟩ := hf.out
  rw [(fire1 (second - 1) b 0 1 second (by omega)).1] at hh o5
  rw [(fire1 (second - 1) b 0 1 second (by omega)).2] at hh
  obtain ⟨A5, c5, rfl, -, -⟩ := own_nums (n := 0) o5 rfl
  have H5 := Lib.hid hh
  clear hf hh o5 m5 n5
  go_wp2_with fail
  refine (adv_as w5 g F5 _ _ (second - 1) second _ _ H5.out (by omega) (by omega)).mono ?_
  rintro e w6 ⟨v6, rfl, hf⟩
  obtain ⟨F6, hh, o6, m6, n6⟩ := hf.out
  rw [(fire2 second b 0 1 second (by omega)).1] at hh o6
  rw [(fire2 second b 0 1 second (by omega)).2] at hh
  have e6 : whatT (takeL (takeL ((Slb.new 4096).put 3) []) []) [(⟨b, 0, 1, second⟩ : Tm)] = [3] := what1 3 b second
  rw [e6] at o6
  have O6 := Lib.hid o6
  obtain ⟨A6, c6, rfl, -, -⟩ := own_nums (n := 1) o6 rfl
  have H6 := Lib.hid hh
  clear hf hh o6 m6 n6
  go_wp2_with fail
  refine (adv_as w6 g F6 _ _ second (max first second + 1) _ _ H6.out (by omega) (by omega)).mono ?_
  rintro e w7 ⟨v7, rfl, hf⟩
  obtain ⟨F7, hh, o7, m7, n7⟩ := hf.out
  rw [show fireT (max first second + 1) [] = [] from rfl] at o7
  obtain ⟨A7, c7, rfl, -, -⟩ := own_nums (n := 0) o7 rfl
  have O7 := Lib.hid (O6.out.mods m7 (H6.out.wh.far_ints O6.out))
  have H7 := Lib.hid hh.mods
  clear hf hh o7 m7 n7
  go_wp2_with fail
  refine (ints_yes (w7.alloc _) A6 (some ⟨w7.heap.size, 0, none⟩) 1 1 c6 1 [3] rfl rfl (by decide) (fun j u hu => by
    obtain ⟨b', o', e', hc⟩ := O7.out.src j u hu
    exact ⟨b', o', e', cell_alloc hc _⟩) (Src.one _ _ _)).mono ?_
  rintro e w8 ⟨rfl, k8, rfl⟩
  have M8 := Lib.hid (H7.out.trans (((Mods.refl [] w7).alloc (.cells #[.int .i64 3] 3)).drewN k8) (by simp))
  go_wp2_with fail
  refine (known_any _ (HT.out.mods M8.out (by simp))).mono ?_
  rintro e w9 ⟨rfl, hm⟩
  have M9 := Lib.hid (M8.out.trans hm (by simp))
  clear hm
  go_wp2
  go_ret
  exact ⟨rfl, M9.out.below⟩
set_option maxHeartbeats 2000000 in
theorem outer (a b c : Int) (h : a < 1 ∨ 1073741824 < a ∨ b < 1 ∨ 1073741824 < b ∨ c < 0 ∨ a ≤ c ∨ b ≤ c) (w : World) (ht : TzTab w) :
    Calls Tryd.prog 8 #[.int .i64 a, .int .i64 b, .int .i64 c] w fun e w' => e = .returned (.bool true) ∧ Below w.heap.size w w' := by
  have HT := Lib.hid (known_any w ht)
  clear ht
  by_cases c1 : a < 1
  all_goals try by_cases c2 : 1073741824 < a
  all_goals try by_cases c3 : b < 1
  all_goals try by_cases c4 : 1073741824 < b
  all_goals try by_cases c5 : c < 0
  all_goals try by_cases c6 : a ≤ c
  all_goals try by_cases c7 : b ≤ c
  all_goals first
    | (exfalso; omega)
    | (clear h
       go_enter Tryd.func8, Tryd.ntmps8
       go_wp2_with fail
       refine HT.out.mono ?_
       rintro e w' ⟨rfl, hm⟩
       go_wp2
       go_ret
       exact ⟨rfl, hm.below⟩)
theorem walk (a : Int) (wa : (Lit.int .i64 a).wf = true) (b : Int) (wb : (Lit.int .i64 b).wf = true) (c : Int) (wc : (Lit.int .i64 c).wf = true) (w : World) (hL : laidMetH Tryd.prog Rows.wheelResetsRow.laid w) :
    Calls Tryd.prog 8 #[.int .i64 a, .int .i64 b, .int .i64 c] w fun e w' => e = .returned (.bool true) ∧ Below w.heap.size w w' := by
  rw [MakeChecks.laidMetH_plain _ _ _ (by kernel_rfl)] at hL
  have ht := tz_of hL rfl
  by_cases h : a < 1 ∨ 1073741824 < a ∨ b < 1 ∨ 1073741824 < b ∨ c < 0 ∨ a ≤ c ∨ b ≤ c
  · exact outer a b c h w ht
  · obtain ⟨a, rfl⟩ := Int.eq_ofNat_of_zero_le (a := a) (by omega)
    obtain ⟨b, rfl⟩ := Int.eq_ofNat_of_zero_le (a := b) (by omega)
    obtain ⟨c, rfl⟩ := Int.eq_ofNat_of_zero_le (a := c) (by omega)
    exact inner a b c (by omega) (by omega) (by omega) (by omega) (by omega) (by omega) w ht


theorem own : ownKnob Tryd.prog.godebug = none := by kernel_rfl
theorem laidOut : laidOutB Tryd.prog = true := by kernel_rfl
set_option maxRecDepth 100000 in
theorem lifted (os : Os) (started : os.Started) (H : Type) (enc : TypeId × Value → H) :
    ReturnsInHanded {} Tryd.checked os 8 .any (fun w args => (Rows.wheelResetsSpec.pre enc Tryd.prog Tryd.f8 [] false w args ∧ laidMetH Tryd.prog Rows.wheelResetsRow.laid w) ∧ sizedMet enc Tryd.prog Tryd.f8 (OpenSpec.ofChange Rows.wheelResetsSpec) false w args)
      (Rows.wheelResetsSpec.post enc Tryd.prog Tryd.f8 false true false false) := by
  refine returnsInHanded_of_change_and (C := Tryd.checked) (X := fun w _ => laidMetH Tryd.prog Rows.wheelResetsRow.laid w) (fun _ _ _ hh h => h.of_heap hh) own started (by kernel_rfl) Tryd.func8
    (ChangeSpec.witness_shaped (enc := enc) (C := Tryd.checked) (os := os) (X := fun w _ => laidMetH Tryd.prog Rows.wheelResetsRow.laid w) false (World.laidAll Tryd.prog os Rows.wheelResetsRow.laid) #[.int .i64 0, .int .i64 0, .int .i64 0] 8 (World.laidAll_os _ _ _)
      (World.shaped_of_ZipB (by kernel_rfl) (by kernel_rfl)) (by kernel_rfl) (by kernel_rfl) (by kernel_rfl)
      (by rw [MakeChecks.laidMetH_plain _ _ _ (by kernel_rfl)]; exact laidMet_laidAll _ (by kernel_rfl) (by kernel_rfl))) ?_
  intro W base args ds gs before hval0 hW hcnd hsz0 hL _
  have hsz : (DataW.weightsEach Tryd.prog (Tryd.f8.params.toList ++ Rows.wheelResetsSpec.plain.varTypes Tryd.prog) (ds ++ gs)).all (· ≤ reachBytes) = true := hsz0
  have hval : ∀ (j : Nat) t v, Tryd.f8.params[j]? = some t → args[j]? = some v → Value.okWide Tryd.prog W .any base t v := hval0
  have hW' := hW
  obtain ⟨p, q, hA0, hV, rfl, hfz, hnd⟩ := hW
  have hA : DataW.TrodAll enc Tryd.prog W 0 (fun _ => true) true Tryd.f8.params.toList args.toList ds p := hA0
  rw [Tryd.params8] at hA hval hsz
  obtain ⟨v0, vs0, d0, ds0, p0, q0, hargs, rfl, rfl, h0, r0⟩ := trodAll_cons hA
  obtain ⟨v1, vs1, d1, ds1, p1, q1, rfl, rfl, rfl, h1, r1⟩ := trodAll_cons r0
  obtain ⟨v2, vs2, d2, ds2, p2, q2, rfl, rfl, rfl, h2, r2⟩ := trodAll_cons r1
  obtain ⟨rfl, rfl, rfl⟩ := trodAll_nil r2
  obtain rfl : args = #[v0, v1, v2] := by cases args; simp_all
  obtain ⟨rfl, rfl⟩ := trodVars_none hV
  obtain ⟨a0, rfl, rfl, rfl, w0⟩ := open_int Tryd.underlying3 (hval 0 3 v0 rfl rfl) h0
  obtain ⟨a1, rfl, rfl, rfl, w1⟩ := open_int Tryd.underlying3 (hval 1 3 v1 rfl rfl) h1
  obtain ⟨a2, rfl, rfl, rfl, w2⟩ := open_int Tryd.underlying3 (hval 2 3 v2 rfl rfl) h2
  clear hA0 hval0 hsz0 hsz
  refine (walk a0 w0 a1 w1 a2 w2 W hL).mono fun e W' ⟨he, bel⟩ => ?_
  subst he
  exact ⟨_, rfl, _, _, _, [], _, [], hW', trodAll_mk1 (shut_bool Tryd.underlying4 _), (trodAll_cons_mk (shut_int Tryd.underlying3 w0) (trodAll_cons_mk (shut_int Tryd.underlying3 w1) (trodAll_cons_mk (shut_int Tryd.underlying3 w2) trodAll_mk0))), rfl, bel.frame _, fun h => by cases h⟩

theorem over : Rows.wheelResetsRow.holds Tryd.pinned (OpenSpec.ofChange Rows.wheelResetsSpec) :=
  OpenClaim.holds_of_wide 8 Tryd.f8 rfl rfl rfl rfl rfl rfl rfl ⟨rfl, rfl, rfl, rfl, rfl⟩ rfl rfl rfl rfl rfl (by kernel_rfl) Tryd.func8 (by kernel_rfl)
    (of_decide_eq_true (by kernel_rfl)) (by unfold Func.isWrapper; first | (rw [if_pos (by decide +kernel)]; kernel_rfl) | (rw [if_neg (by decide +kernel)]; exact ⟨rfl, rfl⟩))
    (fun os started H enc _ => lifted os started H enc)

theorem said : Rows.WheelResetsSaid := over
theorem plain (f : FuncId) (fn : Func) (hf : Tryd.pinned.checked.prog.funcNamed "usher/usherlaw6.WheelResets" = some f) (hfn : Tryd.pinned.checked.prog.funcs[f]? = some fn) :
    false = Tryd.pinned.checked.prog.looks [] ∧ ∀ (j : Nat) t, fn.params[j]? = some t → Tryd.pinned.checked.prog.wantsStandIn t = false := by
  obtain rfl : f = 8 := Option.some.inj ((show Tryd.prog.funcNamed "usher/usherlaw6.WheelResets" = some 8 by kernel_rfl).symm.trans hf) |>.symm
  obtain rfl : fn = Tryd.f8 := (Option.some.inj (Tryd.func8.symm.trans hfn)).symm
  refine ⟨by kernel_rfl, fun j t ht => ?_⟩
  rw [Tryd.params8] at ht
  have hm : t ∈ [3] := by simpa using Array.mem_of_getElem? ht
  simp only [List.mem_cons, List.mem_nil_iff, or_false] at hm
  rcases hm with rfl
  · exact (show Tryd.prog.wantsStandIn 3 = false by kernel_rfl)
theorem proved : Rows.WheelResetsCardSaid :=
  Claim7.holds_tied_plain_at .later [] _ _ _ _ said (fun _ h => by cases h) (by kernel_rfl) (fun _ h => by cases h) wheelResets_row_tie rfl ⟨rfl, rfl⟩ (by kernel_rfl) rfl plain (by kernel_rfl)
end Go.Proofs.YtgfmjkbelciaaaaDoor.wheelResets
